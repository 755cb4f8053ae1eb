/- Own texts, joined: ST24, ST25, STF. -/
import Derived.Test.YtflppkmicgglfaaM6
import Derived.BigQuiet
import Derived.Deep.RegionHeld3
import Derived.Test.YtflppkmicgglfaaRows
import Derived.ProofKit
import Derived.OpenShut
import Derived.SizedLaws
import Derived.Lib.SmallJoins
import Derived.Deep.Matrix
import Derived.Deep.Slices

/- Package settle: what the law of what drains keeps in memory. -/
namespace Go.Proofs.Ytflppkmicgglfaa
open Go.RowKit
set_option maxRecDepth 100000
set_option maxRecDepth 100000
/-- A settle's cells. -/
def stB (own i : Nat) (x : Int) (e : Ent) : Array Value := #[.int .i64 8, .int .i64 0, .int .i64 x, .int .i64 (own : Nat), .int .u64 0, .int .u64 0, .int .u64 0, .int .u64 0, .int .i64 0, .int .u64 0, .slice none 0 0, .int .i64 (i : Nat), .int .u64 (e.nu : Nat), .string (strL e.na), .string (strL []), .int .u64 (e.am : Nat), .int .u64 0, .int .u64 0, .int .i64 0, .int .i64 0, .int .i64 0, .int .i64 0]
theorem stB_all (own i : Nat) (x : Int) (e : Ent) : (stB own i x e).all (·.oneCell') = true := by kernel_rfl
theorem infoU2 : (Try.prog.info? 45).map (fun i => (i.zero, i.size, i.bytes)) = some (some (.int .u64 0), 1, 8) := by kernel_rfl
theorem new_row2 (O : Nat → Nat) (x : Nat) (w : World) (z : Value) (k t : Nat) : Ch x O (fun b => if b < w.heap.size then O b else x) w (w.alloc (.cells (madeCells #[z] k) t)) ∧ RowC (fun b => if b < w.heap.size then O b else x) x (w.alloc (.cells (madeCells #[z] k) t)) w.heap.size t k (fun _ => z) := by
  have s : w.Since w.heap.size (w.alloc (.cells (madeCells #[z] k) t)) := (World.Since.refl _ _).alloc (Nat.le_refl _) _
  exact ⟨⟨s.os, s.tape, s.output, s.size, fun b hb => if_pos hb, fun b hb _ => s.block b hb⟩, World.rowIs_made w _ k _, if_neg (Nat.lt_irrefl _)⟩
/-- The Settle, the queue, what has been credited. -/
structure SZ (w0 : World) (nodes n own m c : Nat) (CF : Array Value) (vb sb mb : Nat) (O : Nat → Nat) (w : World) (p : Sp) (d : Sd) (qv : Value) (l : List Ent) (mk : Nat → Nat) : Prop where
  b : SB w0 nodes n own m c CF vb sb O w p d qv l
  mr : RowC O 43 w mb 45 n (fun i => .int .u64 (mk i : Nat))
/-- Where the loop over the ticks stands. -/
def DX (w0 : World) (nodes n own m c : Nat) (CF : Array Value) (vb sb mb lim : Nat) (hold : Nat → Nat) (qa : Option Addr) (qc K T : Nat) (W : World) : Prop := ∃ O p d l mk, K = l.length ∧ K ≤ 16 ∧ SZ w0 nodes n own m c CF vb sb mb O W p d (.slice qa K qc) l mk ∧ DH n own m c lim hold l d mk T
/-- Where the loop over a tick's messages stands. -/
structure DYs (w0 : World) (nodes n own m c : Nat) (CF : Array Value) (vb sb mb lim : Nat) (hold : Nat → Nat) (qa : Option Addr) (qc K T j : Nat) (a : Option Addr) (cc M : Nat) (O : Nat → Nat) (W : World) (p : Sp) (d : Sd) (l : List Ent) (mk : Nat → Nat) (pe : List Nat) (t0 : Nat → Nat) (e0 : Nat → Ent) : Prop where
  hK : K = l.length
  h16 : K ≤ 16
  z : SZ w0 nodes n own m c CF vb sb mb O W p d (.slice qa K qc) l mk
  hM : M = pe.length
  li : Li O 40 W 53 22 (.slice a M cc) M (msF (pe.map fun i => telG 0 (own : Nat) (e0 i) (copN i nodes (t0 i) : Nat)))
  up : pe.Pairwise (· < ·)
  md : DM2 n own m c lim hold l d mk pe t0 e0 j T
def DY (w0 : World) (nodes n own m c : Nat) (CF : Array Value) (vb sb mb lim : Nat) (hold : Nat → Nat) (qa : Option Addr) (qc K T j : Nat) (a : Option Addr) (cc M : Nat) (W : World) : Prop := ∃ O p d l mk pe t0 e0, DYs w0 nodes n own m c CF vb sb mb lim hold qa qc K T j a cc M O W p d l mk pe t0 e0
/-- .. a message being looked at. -/
def DZ (w0 : World) (nodes n own m c : Nat) (CF : Array Value) (vb sb mb lim : Nat) (hold : Nat → Nat) (qa : Option Addr) (qc K T j : Nat) (a : Option Addr) (cc M : Nat) (gb i t nu : Nat) (x : Int) (W : World) : Prop := ∃ O p d l mk pe t0 e0, DYs w0 nodes n own m c CF vb sb mb lim hold qa qc K T j a cc M O W p d l mk pe t0 e0 ∧ pe[j]? = some i ∧ (W.rangeAt gb 0 (stB own i x (e0 i)).toList ∧ O gb = 50 ∧ gb < W.heap.size) ∧ t = t0 i ∧ nu = (e0 i).nu ∧ nu = mk i + 1 ∧ x = (copN i nodes (t0 i) : Nat)
section
variable {w0 : World} {nodes n own m c : Nat} {CF : Array Value} {vb sb mb lim : Nat} {hold : Nat → Nat} {qa : Option Addr} {qc K T j : Nat} {a : Option Addr} {cc M : Nat} {O O' : Nat → Nat} {W W' : World} {p : Sp} {d : Sd} {l : List Ent} {mk : Nat → Nat} {pe : List Nat} {t0 : Nat → Nat} {e0 : Nat → Ent} {gb i t nu : Nat} {x : Int} {qv : Value}
theorem SZ.keep {q : Nat} (h : SZ w0 nodes n own m c CF vb sb mb O W p d qv l mk) (k : Ch q O O' W W') (h1 : 44 ≤ q) (h2 : q < 1000) : SZ w0 nodes n own m c CF vb sb mb O' W' p d qv l mk := ⟨h.b.keep k (by omega) h2, h.mr.keep k (by omega)⟩
theorem DYs.keep {q : Nat} (h : DYs w0 nodes n own m c CF vb sb mb lim hold qa qc K T j a cc M O W p d l mk pe t0 e0) (k : Ch q O O' W W') (h1 : 44 ≤ q) (h2 : q < 1000) : DYs w0 nodes n own m c CF vb sb mb lim hold qa qc K T j a cc M O' W' p d l mk pe t0 e0 :=
  ⟨h.hK, h.h16, h.z.keep k h1 h2, h.hM, h.li.keep k (by omega), h.up, h.md⟩
theorem DY.later (h : DY w0 nodes n own m c CF vb sb mb lim hold qa qc K T j a cc M W) (s : W.Since W.heap.size W') : DY w0 nodes n own m c CF vb sb mb lim hold qa qc K T j a cc M W' := by
  obtain ⟨O, p, d, l, mk, pe, t0, e0, h⟩ := h
  exact ⟨O, p, d, l, mk, pe, t0, e0, h.keep (q := 60) (Ch.since s) (by decide) (by decide)⟩
theorem DZ.later (h : DZ w0 nodes n own m c CF vb sb mb lim hold qa qc K T j a cc M gb i t nu x W) (s : W.Since W.heap.size W') : DZ w0 nodes n own m c CF vb sb mb lim hold qa qc K T j a cc M gb i t nu x W' := by
  obtain ⟨O, p, d, l, mk, pe, t0, e0, h, h1, h2, h3⟩ := h
  exact ⟨O, p, d, l, mk, pe, t0, e0, h.keep (q := 60) (Ch.since s) (by decide) (by decide), h1, ⟨rangeAt_on h2.1 (s.block _ h2.2.2), h2.2.1, Nat.lt_of_lt_of_le h2.2.2 s.size⟩, h3⟩
theorem DX.since (h : DX w0 nodes n own m c CF vb sb mb lim hold qa qc K T W) : w0.Since w0.heap.size W := by
  obtain ⟨O, p, d, l, mk, _, _, h, _⟩ := h
  exact h.b.since
theorem DY.since (h : DY w0 nodes n own m c CF vb sb mb lim hold qa qc K T j a cc M W) : w0.Since w0.heap.size W := by
  obtain ⟨O, p, d, l, mk, pe, t0, e0, h⟩ := h
  exact h.z.b.since
theorem DZ.since (h : DZ w0 nodes n own m c CF vb sb mb lim hold qa qc K T j a cc M gb i t nu x W) : w0.Since w0.heap.size W := by
  obtain ⟨O, p, d, l, mk, pe, t0, e0, h, _⟩ := h
  exact h.z.b.since
/-- A tick. -/
theorem DX.tick (h : DX w0 nodes n own m c CF vb sb mb lim hold qa qc K T W) (hT : T ≤ lim) :
    Calls Try.prog 8 #[.pointer (some ⟨sb, 0, none⟩)] W fun e w' => ∃ a cc M, e = .returned (.slice a M cc) ∧ Hid (M ≤ n ∧ (K = 0 → M = 0) ∧ DY w0 nodes n own m c CF vb sb mb lim hold qa qc K T 0 a cc M w') := by
  obtain ⟨O, p, d, l, mk, hK, h16, hz, hd⟩ := h
  refine (hz.b.tick hd.b.du).mono fun e w' ⟨a, cc, M, he, hh⟩ => ⟨a, cc, M, he, ?_⟩
  obtain ⟨O', hM, h5, h6, h7⟩ := hh.out
  refine ⟨?_, fun h0 => ?_, O', p, _, l, mk, _, _, _, hK, h16, ⟨h5, hz.mr.keepR h7 (by omega)⟩, hM, ?_, peers_up, hd.tick hT⟩
  · rw [hM]
    have := List.length_filter_le (firesB d (shF d l)) (List.range n)
    rw [List.length_range] at this
    exact this
  · obtain rfl : l = [] := List.length_eq_zero_iff.1 (by omega)
    rw [hM, hd.b.silent]; rfl
  have e : (peersM d (shF d l) n).map (sendM d (shF d l)) = (peersM d (shF d l) n).map fun i => telG 0 (own : Nat) ((shF d l i).elim ent0 (·.e)) ((copN i nodes (d.t i) : Nat) : Int) := by
    refine List.map_congr_left fun i _ => ?_
    unfold sendM
    rw [hz.b.fx.node, hz.b.fx.shard, hz.b.fx.hcp]
  rw [← e]
  exact h6
/-- The next message is taken. -/
theorem DY.take (h : DY w0 nodes n own m c CF vb sb mb lim hold qa qc K T j a cc M W) (hj : j < M) : ∃ (b i t nu : Nat) (x : Int) (MA : Array Value), a = some ⟨b, 0, none⟩ ∧ i < n ∧ t < c ∧ nu < 18446744073709551616 ∧ Hid (W.rangeAt b (j * 22) MA.toList) ∧ Hid ((Try.prog.info? 53).map (·.size) = some MA.toList.length) ∧
    ∃ W1 W2 gb, Hid (W.heap.size = gb) ∧ Hid (W.alloc (.cells #[.int .i64 0, .int .i64 0, .int .i64 0, .int .i64 0, .int .u64 0, .int .u64 0, .int .u64 0, .int .u64 0, .int .i64 0, .int .u64 0, .slice none 0 0, .int .i64 0, .int .u64 0, .string ⟨#[]⟩, .string ⟨#[]⟩, .int .u64 0, .int .u64 0, .int .u64 0, .int .i64 0, .int .i64 0, .int .i64 0, .int .i64 0] 53) = W1) ∧ Hid (W1.there gb 0 MA.size) ∧ Hid ((Try.prog.info? 53).map (·.size) = some MA.size) ∧ Hid (MA.all (·.oneCell') = true) ∧ Hid (W1.setCells gb 0 MA.toList = W2) ∧ Hid (DZ w0 nodes n own m c CF vb sb mb lim hold qa qc K T j a cc M gb i t nu x W2) := by
  obtain ⟨O, p, d, l, mk, pe, t0, e0, h⟩ := h
  obtain ⟨i, hi⟩ : ∃ i, pe[j]? = some i := ⟨_, List.getElem?_eq_getElem (by rw [← h.hM]; exact hj)⟩
  obtain ⟨a1, a2, a3, a4, a5, a6⟩ := h.md.pend j (Nat.le_refl _) i hi
  obtain ⟨b, ha, hr⟩ := msF_range h.li (by rw [List.length_map, h.hM]) j hj
  have hpi : (e0 i).p = (i : Int) := by have := List.find?_some a3; simpa using this
  have hnu : (e0 i).nu = mk i + 1 := by
    have hrow := h.md.b.row i a1
    have hh : (ofP l i).head? = some (e0 i) := by rw [ofP_head]; exact a3
    cases hl : ofP l i with
    | nil => rw [hl] at hh; cases hh
    | cons y ys =>
      rw [hl] at hh hrow
      obtain rfl := Option.some.inj hh
      exact hrow.1
  have hms : mgL ((pe.map fun i => telG 0 (own : Nat) (e0 i) ((copN i nodes (t0 i) : Nat) : Int)).getD j mg0) none 0 = (stB own i (copN i nodes (t0 i) : Nat) (e0 i)).toList := by
    rw [List.getD_eq_getElem?_getD, List.getElem?_map, hi]
    show mgL (telG 0 (own : Nat) (e0 i) (copN i nodes (t0 i) : Nat)) none 0 = _
    have e : mgL (telG 0 (own : Nat) (e0 i) (copN i nodes (t0 i) : Nat)) none 0 = [.int .i64 8, .int .i64 0, .int .i64 (copN i nodes (t0 i) : Nat), .int .i64 (own : Nat), .int .u64 0, .int .u64 0, .int .u64 0, .int .u64 0, .int .i64 0, .int .u64 0, .slice none 0 0, .int .i64 (e0 i).p, .int .u64 ((e0 i).nu : Nat), .string (strL (e0 i).na), .string (strL []), .int .u64 ((e0 i).am : Nat), .int .u64 0, .int .u64 0, .int .i64 0, .int .i64 0, .int .i64 0, .int .i64 0] := rfl
    rw [e, hpi]
    rfl
  rw [hms] at hr
  obtain ⟨W1, W2, gb, b1, b2, b3, b4, b5, b6, b7, b8⟩ := msg_box W (stB own i (copN i nodes (t0 i) : Nat) (e0 i)) rfl (stB_all _ _ _ _)
  have s2 := b7.out
  have k2 : Ch 50 O (fun k => if k < W.heap.size then O k else 50) W W2 := ⟨s2.os, s2.tape, s2.output, s2.size, fun k hk => if_pos hk, fun k hk _ => s2.block k hk⟩
  have hgb : gb = W.heap.size := b1.out.symm
  have hbn : (e0 i).nu < 18446744073709551616 := (h.z.b.qu.2 _ (List.mem_of_find?_eq_some a3)).1
  refine ⟨b, i, t0 i, (e0 i).nu, ((copN i nodes (t0 i) : Nat) : Int), stB own i (copN i nodes (t0 i) : Nat) (e0 i), ha, a1, a4, hbn, hr, infoM22, W1, W2, gb, b1, b2, b3, b4, b5, b6, ?_⟩
  refine ⟨_, p, d, l, mk, pe, t0, e0, h.keep k2 (by decide) (by decide), hi, ⟨b8.out.1, ?_, b8.out.2⟩, rfl, rfl, hnu, rfl⟩
  show (if gb < W.heap.size then O gb else 50) = 50
  rw [if_neg (by omega)]
theorem DZ.cells (h : DZ w0 nodes n own m c CF vb sb mb lim hold qa qc K T j a cc M gb i t nu x W) (hn : i < n) : W.cell? ⟨gb, 11, none⟩ = some (.int .i64 (i : Nat)) ∧ W.cell? ⟨gb, 12, none⟩ = some (.int .u64 (nu : Nat)) ∧ W.cell? ⟨gb, 2, none⟩ = some (.int .i64 x) ∧ ∃ k : Nat, nu = k + 1 ∧ W.cell? ⟨mb, i, none⟩ = some (.int .u64 (k : Nat)) ∧ W.frozen? ⟨mb, i, none⟩ = false := by
  obtain ⟨O, p, d, l, mk, pe, t0, e0, h, h1, ⟨h2, h3, h4⟩, h5, h6, h7, h8⟩ := h
  have g : ∀ q v, (stB own i x (e0 i)).toList[q]? = some v → W.cell? ⟨gb, q, none⟩ = some v := fun q v hv => by
    have := h2 q v hv
    rw [Nat.zero_add] at this
    exact this
  subst h6
  exact ⟨g 11 _ rfl, g 12 _ rfl, g 2 _ rfl, mk i, h7, h.z.mr.1.cell hn, h.z.mr.1.frozen i⟩
theorem DZ.cf {q : Nat} {v : Value} (h : DZ w0 nodes n own m c CF vb sb mb lim hold qa qc K T j a cc M gb i t nu x W) (hv : CF.toList[q]? = some v) : W.cell? ⟨vb, q, none⟩ = some v := by
  obtain ⟨O, p, d, l, mk, pe, t0, e0, h, _⟩ := h
  have := h.z.b.cf.1 q v hv
  rw [Nat.zero_add] at this
  exact this
theorem DX.cf {q : Nat} {v : Value} (h : DX w0 nodes n own m c CF vb sb mb lim hold qa qc K T W) (hv : CF.toList[q]? = some v) : W.cell? ⟨vb, q, none⟩ = some v := by
  obtain ⟨O, p, d, l, mk, _, _, h, _⟩ := h
  have := h.b.cf.1 q v hv
  rw [Nat.zero_add] at this
  exact this
theorem DZ.range (h : DZ w0 nodes n own m c CF vb sb mb lim hold qa qc K T j a cc M gb i t nu x W) : W.rangeAt vb 0 CF.toList := by
  obtain ⟨O, p, d, l, mk, pe, t0, e0, h, _⟩ := h
  exact h.z.b.cf.1
theorem DZ.place (h : DZ w0 nodes n own m c CF vb sb mb lim hold qa qc K T j a cc M gb i t nu x W) (hCF : cfgA nodes n c m = CF) (hg : ∀ i : Nat, i < n → goodM i nodes c) :
    Calls Try.prog 11 #[.agg CF, .int .i64 (i : Nat), .int .i64 x] W fun e' w6 => e' = .returned (.int .i64 (t : Nat)) ∧ Hid (DZ w0 nodes n own m c CF vb sb mb lim hold qa qc K T j a cc M gb i t nu x w6) := by
  have h' := h
  obtain ⟨O, p, d, l, mk, pe, t0, e0, h, h1, h2, h3, h4, h5, h6⟩ := h
  obtain ⟨a1, _, _, a4, _⟩ := h.md.pend j (Nat.le_refl _) i h1
  rw [← hCF, h6]
  refine (placeOf_any (m := m) (n := n) (hg i a1) ((copN i nodes (t0 i) : Nat) : Int)).mono fun e' w6 ⟨he6, s6⟩ => ?_
  rw [place_turn (hg i a1) a4] at he6
  rw [hCF, ← h6, h3]
  rw [h3] at h'
  exact ⟨he6, h'.later s6.out⟩
theorem DZ.miss (h : DZ w0 nodes n own m c CF vb sb mb lim hold qa qc K T j a cc M gb i t nu x W) (hne : t ≠ hold i) : DY w0 nodes n own m c CF vb sb mb lim hold qa qc K T (j + 1) a cc M W := by
  obtain ⟨O, p, d, l, mk, pe, t0, e0, h, h1, h2, h3, h4, h5, h6⟩ := h
  exact ⟨O, p, d, l, mk, pe, t0, e0, h.hK, h.h16, h.z, h.hM, h.li, h.up, h.md.miss h1 (by rw [← h3]; exact hne)⟩
theorem DZ.lost (h : DZ w0 nodes n own m c CF vb sb mb lim hold qa qc K T j a cc M gb i t nu x W) : DY w0 nodes n own m c CF vb sb mb lim hold qa qc K 0 (j + 1) a cc M W := by
  obtain ⟨O, p, d, l, mk, pe, t0, e0, h, h1, h2, h3, h4, h5, h6⟩ := h
  exact ⟨O, p, d, l, mk, pe, t0, e0, h.hK, h.h16, h.z, h.hM, h.li, h.up, h.md.lost h1⟩
theorem DZ.weak (h : DZ w0 nodes n own m c CF vb sb mb lim hold qa qc K T j a cc M gb i t nu x W) {T' : Nat} (hT : T' ≤ T) : DZ w0 nodes n own m c CF vb sb mb lim hold qa qc K T' j a cc M gb i t nu x W := by
  obtain ⟨O, p, d, l, mk, pe, t0, e0, h, h1⟩ := h
  exact ⟨O, p, d, l, mk, pe, t0, e0, ⟨h.hK, h.h16, h.z, h.hM, h.li, h.up, h.md.weak hT⟩, h1⟩
theorem DY.done (h : DY w0 nodes n own m c CF vb sb mb lim hold qa qc K T M a cc M W) : DX w0 nodes n own m c CF vb sb mb lim hold qa qc K (T + 1) W := by
  obtain ⟨O, p, d, l, mk, pe, t0, e0, h⟩ := h
  have := h.hM
  refine ⟨O, p, d, l, mk, h.hK, h.h16, h.z, ?_⟩
  have hm := h.md
  rw [this] at hm
  exact hm.head
end
/-- Behind a message's being credited: the mark is on, the queue l' is the law's now. -/
structure DWs (w0 : World) (nodes n own m c : Nat) (CF : Array Value) (vb sb mb lim : Nat) (hold : Nat → Nat) (qv : Value) (l' : List Ent) (T j : Nat) (a : Option Addr) (cc M gb i nu : Nat) (O : Nat → Nat) (W : World) (p : Sp) (d : Sd) (l : List Ent) (mk : Nat → Nat) (pe : List Nat) (t0 : Nat → Nat) (e0 : Nat → Ent) (x : Int) : Prop where
  h16 : l.length ≤ 16
  z : SZ w0 nodes n own m c CF vb sb mb O W p d qv l' (Go.Proofs.Ytflppkmicgglfaa.up mk i nu)
  hM : M = pe.length
  li : Li O 40 W 53 22 (.slice a M cc) M (msF (pe.map fun i => telG 0 (own : Nat) (e0 i) (copN i nodes (t0 i) : Nat)))
  up : pe.Pairwise (· < ·)
  md : DM2 n own m c lim hold l d mk pe t0 e0 j T
  hi : pe[j]? = some i
  box : W.rangeAt gb 0 (stB own i x (e0 i)).toList ∧ O gb = 50 ∧ gb < W.heap.size
  nu1 : nu = (e0 i).nu
  nu2 : nu = mk i + 1
def DW (w0 : World) (nodes n own m c : Nat) (CF : Array Value) (vb sb mb lim : Nat) (hold : Nat → Nat) (qa : Option Addr) (qc K T j : Nat) (a : Option Addr) (cc M gb i nu : Nat) (W : World) : Prop := ∃ O p d l mk pe t0 e0 x, K = l.length ∧ DWs w0 nodes n own m c CF vb sb mb lim hold (.slice qa K qc) l T j a cc M gb i nu O W p d l mk pe t0 e0 x
def DV (w0 : World) (nodes n own m c : Nat) (CF : Array Value) (vb sb mb lim : Nat) (hold : Nat → Nat) (qa : Option Addr) (qc K T j : Nat) (a : Option Addr) (cc M gb i nu : Nat) (W : World) : Prop := ∃ O p d l mk pe t0 e0 x, K = (woM l (i : Int) nu).length ∧ DWs w0 nodes n own m c CF vb sb mb lim hold (.slice qa K qc) (woM l (i : Int) nu) T j a cc M gb i nu O W p d l mk pe t0 e0 x
section
variable {w0 : World} {nodes n own m c : Nat} {CF : Array Value} {vb sb mb lim : Nat} {hold : Nat → Nat} {qa : Option Addr} {qc K T j : Nat} {a : Option Addr} {cc M : Nat} {O O' : Nat → Nat} {W W' : World} {gb i t nu : Nat} {x : Int} {p : Sp} {d : Sd} {l l' : List Ent} {mk : Nat → Nat} {pe : List Nat} {t0 : Nat → Nat} {e0 : Nat → Ent} {qv : Value}
theorem DWs.later (h : DWs w0 nodes n own m c CF vb sb mb lim hold qv l' T j a cc M gb i nu O W p d l mk pe t0 e0 x) (s : W.Since W.heap.size W') : DWs w0 nodes n own m c CF vb sb mb lim hold qv l' T j a cc M gb i nu O W' p d l mk pe t0 e0 x :=
  ⟨h.h16, h.z.keep (q := 60) (Ch.since s) (by decide) (by decide), h.hM, h.li.keep (x := 60) (Ch.since s) (by decide), h.up, h.md, h.hi, ⟨rangeAt_on h.box.1 (s.block _ h.box.2.2), h.box.2.1, Nat.lt_of_lt_of_le h.box.2.2 s.size⟩, h.nu1, h.nu2⟩
theorem DW.later (h : DW w0 nodes n own m c CF vb sb mb lim hold qa qc K T j a cc M gb i nu W) (s : W.Since W.heap.size W') : DW w0 nodes n own m c CF vb sb mb lim hold qa qc K T j a cc M gb i nu W' := by
  obtain ⟨O, p, d, l, mk, pe, t0, e0, x, hK, h⟩ := h
  exact ⟨O, p, d, l, mk, pe, t0, e0, x, hK, h.later s⟩
/-- The mark goes on. -/
theorem DZ.credit (h : DZ w0 nodes n own m c CF vb sb mb lim hold qa qc K T j a cc M gb i t nu x W) : DW w0 nodes n own m c CF vb sb mb lim hold qa qc K T j a cc M gb i nu (W.setCell ⟨mb, i, none⟩ (.int .u64 (nu : Nat))) := by
  obtain ⟨O, p, d, l, mk, pe, t0, e0, h, h1, ⟨b1, b2, b3⟩, h3, h4, h5, h6⟩ := h
  have k : Ch 43 O O W (W.setCell ⟨mb, i, none⟩ (.int .u64 (nu : Nat))) := Ch.set h.z.mr.2 _ _
  have r := h.z.mr.set i (.int .u64 (nu : Nat))
  refine ⟨O, p, d, l, mk, pe, t0, e0, x, h.hK, by have := h.h16; have := h.hK; omega, ⟨h.z.b.keep k (by decide) (by decide), ⟨r.1.congr fun q hq => ?_, r.2⟩⟩, h.hM, h.li.keep k (by decide), h.up, h.md, h1, ⟨rangeAt_on b1 (k.block _ b3 (by rw [b2]; decide)), b2, Nat.lt_of_lt_of_le b3 k.size⟩, h4, h5⟩
  show (if q = i then Value.int .u64 (nu : Nat) else .int .u64 (mk q : Nat)) = .int .u64 ((if q = i then nu else mk q : Nat) : Nat)
  split <;> rfl
theorem DW.cells (h : DW w0 nodes n own m c CF vb sb mb lim hold qa qc K T j a cc M gb i nu W) (hn : i < n) : W.cell? ⟨gb, 11, none⟩ = some (.int .i64 (i : Nat)) ∧ W.cell? ⟨mb, i, none⟩ = some (.int .u64 (nu : Nat)) := by
  obtain ⟨O, p, d, l, mk, pe, t0, e0, x, hK, h⟩ := h
  have g := h.box.1 11 (.int .i64 (i : Nat)) rfl
  rw [Nat.zero_add] at g
  refine ⟨g, ?_⟩
  have := h.z.mr.1.cell hn
  rw [up_same] at this
  exact this
theorem DV.cells (h : DV w0 nodes n own m c CF vb sb mb lim hold qa qc K T j a cc M gb i nu W) (hn : i < n) : W.cell? ⟨gb, 11, none⟩ = some (.int .i64 (i : Nat)) ∧ W.cell? ⟨mb, i, none⟩ = some (.int .u64 (nu : Nat)) := by
  obtain ⟨O, p, d, l, mk, pe, t0, e0, x, hK, h⟩ := h
  have g := h.box.1 11 (.int .i64 (i : Nat)) rfl
  rw [Nat.zero_add] at g
  refine ⟨g, ?_⟩
  have := h.z.mr.1.cell hn
  rw [up_same] at this
  exact this
theorem DW.wants (h : DW w0 nodes n own m c CF vb sb mb lim hold qa qc K T j a cc M gb i nu W) : Calls Try.prog 13 #[.pointer (some ⟨sb, 0, none⟩), .int .i64 (i : Nat), .int .u64 (nu : Nat)] W fun e w' => e = .returned (.bool true) ∧ W = w' := by
  obtain ⟨O, p, d, l, mk, pe, t0, e0, x, hK, h⟩ := h
  rw [← h.z.b.psb]
  obtain ⟨a1, a2, a3, _⟩ := h.md.pend j (Nat.le_refl _) i h.hi
  refine (wants_any h.z.b.s (i : Nat) nu).mono fun e w' ⟨he, hw⟩ => ⟨?_, hw⟩
  rw [he]
  have hd := h.md.b.first i a1
  rw [a3] at hd
  have e2 : wantsM d (i : Nat) nu = true := by
    unfold wantsM
    rw [h.md.b.du]
    show (if (0 : Int) ≤ (i : Nat) ∧ ((i : Nat) : Int) < (d.n : Int) then (match shF d l ((i : Nat) : Int).toNat with | none => false | some u => decide (u.le ≤ nu)) else false) = true
    rw [h.md.b.dn, if_pos ⟨by omega, by omega⟩, Int.toNat_natCast, hd]
    show decide (mk i + 1 ≤ nu) = true
    have := h.nu2
    exact decide_eq_true (by omega)
  rw [e2]
theorem DW.has (h : DW w0 nodes n own m c CF vb sb mb lim hold qa qc K T j a cc M gb i nu W) : Calls Try.prog 14 #[.slice qa K qc, .int .i64 (i : Nat), .int .u64 (nu : Nat)] W fun e w' => e = .returned (.bool true) ∧ Hid (W.Since W.heap.size w') := by
  obtain ⟨O, p, d, l, mk, pe, t0, e0, x, rfl, h⟩ := h
  obtain ⟨a1, a2, a3, _⟩ := h.md.pend j (Nat.le_refl _) i h.hi
  have h16 := h.h16
  refine (has_any (qc := qc) h.z.b.qu.q (by omega) (i : Nat) nu).mono fun e w' ⟨he, hw⟩ => ⟨?_, hw⟩
  rw [he]
  have e2 : ((firstM l (i : Nat)).isSome && decide ((firstE l (i : Nat)).nu ≤ nu)) = true := by
    unfold firstE
    rw [a3]
    show (true && decide ((e0 i).nu ≤ nu)) = true
    have := h.nu1
    rw [Bool.true_and]
    exact decide_eq_true (by omega)
  rw [e2]
theorem DW.without (h : DW w0 nodes n own m c CF vb sb mb lim hold qa qc K T j a cc M gb i nu W) : Calls Try.prog 15 #[.slice qa K qc, .int .i64 (i : Nat), .int .u64 (nu : Nat)] W fun e w' => ∃ qa' qc' K', e = .returned (.slice qa' K' qc') ∧ Hid (DV w0 nodes n own m c CF vb sb mb lim hold qa' qc' K' T j a cc M gb i nu w') := by
  obtain ⟨O, p, d, l, mk, pe, t0, e0, x, rfl, h⟩ := h
  have h16 := h.h16
  refine (without_any (qc := qc) h.z.b.qu.q (by omega) (i : Nat) nu).mono fun e w' ⟨qa', qc', he, hh⟩ => ⟨qa', qc', _, he, ?_⟩
  obtain ⟨O1, hq, hO1, s⟩ := hh.out
  obtain ⟨O2, hO2⟩ : ∃ O2, (fun b => if b < W.heap.size then O b else 42) = O2 := ⟨_, rfl⟩
  have k : Ch 60 O O2 W w' := ⟨s.os, s.tape, s.output, s.size, fun b hb => by rw [← hO2]; exact if_pos hb, fun b hb _ => s.block b hb⟩
  have hb := h.z.b.keep k (by decide) (by decide)
  refine ⟨O2, p, d, l, mk, pe, t0, e0, x, rfl, h16, ⟨⟨hb.s, hb.psb, hb.fx, hb.cf, ⟨hq.1.paint fun b hbb => ?_, hq.2⟩, hb.base, hb.since⟩, h.z.mr.keep k (by decide)⟩, h.hM, h.li.keep k (by decide), h.up, h.md, h.hi, ⟨rangeAt_on h.box.1 (s.block _ h.box.2.2), (k.col _ h.box.2.2).trans h.box.2.1, Nat.lt_of_lt_of_le h.box.2.2 s.size⟩, h.nu1, h.nu2⟩
  rw [← hO2]
  refine if_neg fun hlt => ?_
  have h1 := hq.1.2 b hbb
  have h2 := hO1 b hlt
  omega
theorem DV.look (h : DV w0 nodes n own m c CF vb sb mb lim hold qa qc K T j a cc M gb i nu W) (x0 x1 x3 x4 x5 : Value) :
    Calls Try.prog 9 #[.pointer (some ⟨sb, 0, none⟩), .agg #[x0, x1, .slice qa K qc, x3, x4, x5]] W fun e w' => e = .returned (.tuple #[]) ∧ Hid (DY w0 nodes n own m c CF vb sb mb lim hold qa qc K T (j + 1) a cc M w') := by
  obtain ⟨O, p, d, l, mk, pe, t0, e0, x, rfl, h⟩ := h
  have h16 := h.h16
  have hle : (woM l (i : Int) nu).length ≤ l.length := List.length_filter_le _ _
  refine (h.z.b.look h.z.b.qu.q (by omega) x0 x1 x3 x4 x5).mono fun e w' ⟨he, hh⟩ => ⟨he, ?_⟩
  obtain ⟨O', p', hb, hk⟩ := hh.out
  have hm := h.md.hit h.up h.hi
  rw [← h.nu2] at hm
  exact ⟨O', p', _, _, _, pe, t0, e0, rfl, by omega, ⟨hb, h.z.mr.keepR hk (by omega)⟩, h.hM, h.li.keepR hk (by omega), h.up, hm⟩
theorem DX.over (h : DX w0 nodes n own m c CF vb sb mb lim hold qa qc K T W) (hT : lim < T) : K = 0 := by
  obtain ⟨O, p, d, l, mk, hK, h16, hz, hd⟩ := h
  rw [hK, hd.over hT]; rfl
/-- In the end nothing is sent any more. -/
theorem DX.quiet (h : DX w0 nodes n own m c CF vb sb mb lim hold qa qc 0 T W) :
    Calls Try.prog 8 #[.pointer (some ⟨sb, 0, none⟩)] W fun e w' => ∃ a cc, e = .returned (.slice a 0 cc) ∧ Hid (w0.Since w0.heap.size w') := by
  obtain ⟨O, p, d, l, mk, hK, h16, hz, hd⟩ := h
  refine (hz.b.tick hd.b.du).mono fun e w' ⟨a, cc, M, he, hh⟩ => ?_
  obtain ⟨O', hM, h5, h6, h7⟩ := hh.out
  obtain rfl : l = [] := List.length_eq_zero_iff.1 hK.symm
  rw [hd.b.silent] at hM
  subst hM
  exact ⟨a, cc, he, h5.since⟩
theorem DX.start {W2 : World} {nx : Nat → Nat} (h : SB w0 nodes n own m c CF vb sb O W p (lookM (newS 0 own nodes n c m) l) (.slice qa K qc) l) (hK : K = l.length) (h16 : K ≤ 16) (hlq : LaidQ n own l nx) (hm : 1 ≤ m) (hc : 1 ≤ c) (hh : ∀ i, i < n → hold i < c) (hl : lim = K * c * m) (h2 : W.alloc (.cells (madeCells #[.int .u64 0] n) 45) = W2) (hmb : W.heap.size = mb) : DX w0 nodes n own m c CF vb sb mb lim hold qa qc K 0 W2 := by
  obtain ⟨k1, r1⟩ := new_row2 O 43 W (.int .u64 0) n 45
  rw [h2, hmb] at r1
  rw [h2, hmb] at k1
  generalize (fun b => if b < mb then O b else 43) = O2 at k1 r1
  obtain ⟨hf, hdu⟩ := (Fx.new nodes n own m c).look l
  have hst := lkN_st (newS 0 own nodes n c m) l n
  have eL : ∀ i, (lookM (newS 0 own nodes n c m) l).l i = 0 := fun i => by
    show (lkN (newS 0 own nodes n c m) l n).l i = 0
    rw [hst]
    show (if _ then 0 else 0) = 0
    split <;> rfl
  have eG : ∀ i, (lookM (newS 0 own nodes n c m) l).g i = 1 := fun i => by
    show (lkN (newS 0 own nodes n c m) l n).g i = 1
    rw [hst]
    show (if _ then 1 else 1) = 1
    split <;> rfl
  have eT : ∀ i, (lookM (newS 0 own nodes n c m) l).t i = 0 := fun i => by
    show (lkN (newS 0 own nodes n c m) l n).t i = 0
    rw [hst]
    rfl
  have hlim : ∀ i, (ofP l i).length * (c * m) ≤ lim := fun i => by
    have : (ofP l i).length ≤ l.length := List.length_filter_le _ _
    rw [hl, hK, Nat.mul_assoc]
    exact Nat.mul_le_mul_right _ this
  refine ⟨O2, p, _, l, fun _ => 0, hK, h16, ⟨h.keep k1 (by decide) (by decide), r1⟩, ⟨hf.hn, hf.hm, hf.hc, hf.hown, hdu, hlq.1, fun i hi => (hlq.2 i hi).1, fun i hi => by rw [eL, eG, eT]; omega, hh, hm, fun i _ => hlim i⟩, fun i hi => ?_⟩
  rw [eL, eT]
  have h1 := pot_le (r := (ofP l i).length) (l := 0) hm (show 0 < c by omega) (hh i hi) (Nat.zero_le _)
  have h3 := hlim i
  omega
end
end Go.Proofs.Ytflppkmicgglfaa

/- SettleDrains: the walk (dr_gen.py). -/
namespace Go.Proofs.Ytflppkmicgglfaa
open Go.RowKit
set_option maxRecDepth 100000
set_option maxRecDepth 100000
/-- Where a peer's holder is among its copies. -/
def holdM (hs : List Int) (c i : Nat) : Nat := if i < hs.length then ((hs.getD i 0) % (c : Int)).toNat else 0
theorem holdM_lt (hs : List Int) (c i : Nat) (hc : 1 ≤ c) : holdM hs c i < c := by
  unfold holdM
  split
  · have := Int.emod_nonneg (hs.getD i 0) (show (c : Int) ≠ 0 by omega)
    have := Int.emod_lt_of_pos (hs.getD i 0) (show (0 : Int) < (c : Int) by omega)
    omega
  · omega
/-- What falls with each tick. -/
def mX (lim lost T : Nat) : Nat := (200 - lost) * (lim + 2) + (lim + 1 - T)
theorem mX_lt {lim lost T lost2 T2 : Nat} (hT : T ≤ lim) (h : lost2 = lost ∧ T2 = T ∨ lost < lost2 ∧ lost2 ≤ 200 ∧ T2 = 0) : mX lim lost2 (T2 + 1) < mX lim lost T := by
  unfold mX
  rcases h with ⟨rfl, rfl⟩ | ⟨h1, h2, rfl⟩
  · omega
  · have : (200 - lost2 + 1) * (lim + 2) ≤ (200 - lost) * (lim + 2) := Nat.mul_le_mul_right _ (by omega)
    rw [Nat.succ_mul] at this
    omega
set_option maxHeartbeats 32000000 in
theorem drains_any {w : World} (a0 a1 a2 a3 a4 : Int) {ma ha xa : Option Addr} {mc hc xc : Nat} {ms hs xs : List Int} (hM : IL w ma ms) (hm : ms.length ≤ 20000000000000) (hH : IL w ha hs) (hhl : hs.length ≤ 20000000000000) (hX : IL w xa xs) (hxl : xs.length ≤ 20000000000000) :
    Calls Try.prog 4 #[.agg #[.int .i64 a0, .int .i64 a1, .int .i64 a2, .int .i64 a3, .int .i64 a4, .slice ma ms.length mc, .slice ha hs.length hc, .slice xa xs.length xc]] w fun e w' => e = .returned (.bool true) ∧ w.Since w.heap.size w' := by
  obtain ⟨HL, HHL⟩ : ∃ x, Hid (hs.length = x) := ⟨_, rfl⟩
  obtain ⟨XL, HXL⟩ : ∃ x, Hid (xs.length = x) := ⟨_, rfl⟩
  have HHB := hide hhl
  have HXB := hide hxl
  rw [HHL.out, HXL.out]
  obtain ⟨W0, HW0⟩ : ∃ W, Hid (w.alloc (.cells #[.int .i64 a0, .int .i64 a1, .int .i64 a2, .int .i64 a3, .int .i64 a4, .slice ma ms.length mc, .slice ha HL hc, .slice xa XL xc] 24) = W) := ⟨_, rfl⟩
  have s0 : w.Since w.heap.size W0 := by rw [← HW0.out]; exact (World.Since.refl _ _).alloc (Nat.le_refl _) _
  have HS0 := hide s0
  have HST := hide (start_any (World.Since.refl W0.heap.size W0) a0 a1 a2 a3 a4 (hM.since s0) (mc := mc) hm (.slice ha HL hc) (.slice xa XL xc))
  obtain ⟨pb, HPB⟩ : ∃ x, Hid (w.heap.size = x) := ⟨_, rfl⟩
  obtain ⟨ML, HML⟩ : ∃ x, Hid (ms.length = x) := ⟨_, rfl⟩
  have hrg : W0.rangeAt pb 0 [.int .i64 a0, .int .i64 a1, .int .i64 a2, .int .i64 a3, .int .i64 a4, .slice ma ML mc, .slice ha HL hc, .slice xa XL xc] := by
    rw [← HW0.out, ← HPB.out, ← HML.out]
    intro j v hj
    rw [Nat.zero_add]
    refine (World.cell?_alloc_at (w := w) _ _ _ j rfl).trans ?_
    rw [← Array.getElem?_toList]
    exact hj
  have HRG := hide hrg
  have HP6 : Hid (∀ W, W0.Since W0.heap.size W → W.cell? ⟨pb, 6, none⟩ = some (.slice ha HL hc)) := fun W h => cell_later h (hrg 6 _ rfl)
  have HP7 : Hid (∀ W, W0.Since W0.heap.size W → W.cell? ⟨pb, 7, none⟩ = some (.slice xa XL xc)) := fun W h => cell_later h (hrg 7 _ rfl)
  have HIH : Hid (∀ W, W0.Since W0.heap.size W → IL W ha hs) := fun W h => (hH.since s0).since h
  have HIX : Hid (∀ W, W0.Since W0.heap.size W → IL W xa xs) := fun W h => (hX.since s0).since h
  have HIL : Hid ((Try.prog.info? 24).map (·.size) = some [Value.int .i64 a0, .int .i64 a1, .int .i64 a2, .int .i64 a3, .int .i64 a4, .slice ma ML mc, .slice ha HL hc, .slice xa XL xc].length) := by show _ = _; kernel_rfl
  rw [HML.out] at HW0 HST
  clear hM hm s0 hrg hH hhl hX hxl
  go_enter Try.func4, Try.ntmps4
  go_upto_region 1 with fail
  rw [HML.out, HW0.out, HPB.out]
  clear HW0
  go_upto_region 2 with (first
    | (refine wpList_load_mid rfl 24 _ rfl pb 0 rfl _ _ HRG.out Try.underlying24 rfl HIL.out ?_)
    | (go_at_call 5; refine HST.out.mono ?_; rintro e w2 ⟨nodes, n, c, m, own, qa, qc, K, CF, rfl, vb, W3, W4, HVB, HW3, HT, HI, HO, HW4, HCR, HCI, HNW⟩)
    | (rw [HW3.out, HVB.out]; clear HW3)
    | (refine wpList_store_mid rfl 27 _ _ rfl vb 0 CF rfl rfl HT.out HI.out HO.out ?_; rw [HW4.out]))
  clear HRG HIL HT HI HO HW4 HST
  go_upto_region 5 with (first
    | (refine wpList_load_mid rfl 27 _ rfl vb 0 rfl CF.toList _ HCR.out Try.underlying27 rfl HCI.out ?_)
    | (go_at_call 6; refine HNW.out.mono ?_; rintro e w5 ⟨sb, rfl, HWA⟩)
    | (go_at_call 7; refine HWA.out.mono ?_; rintro e w6 ⟨rfl, HSE⟩))
  clear HNW HWA HCR
  obtain ⟨hCF, hb, hg, ho, O0, p0, l, nx, hK, h16, hSB0, hlq⟩ := HSE.out
  obtain ⟨L1, hL1⟩ : ∃ L, K * c = L := ⟨_, rfl⟩
  obtain ⟨lim, hlim⟩ : ∃ L, L1 * m = L := ⟨_, rfl⟩
  have hL1b : L1 ≤ 112 := by rw [← hL1]; exact Nat.mul_le_mul h16 hb.2.2.2.2.2.1
  have hlimb : lim ≤ 7168 := by rw [← hlim]; exact Nat.mul_le_mul hL1b hb.2.2.2.2.2.2.2
  have hw1 : IntKind.i64.wrap ((K : Int) * (c : Int)) = (L1 : Int) := by rw [← hL1, ← Int.natCast_mul, IntKind.wrap_i64]; omega
  have hw2 : IntKind.i64.wrap ((L1 : Int) * (m : Int)) = (lim : Int) := by rw [← hlim, ← Int.natCast_mul, IntKind.wrap_i64]; omega
  have HLK : Hid (Calls Try.prog 9 #[.pointer (some ⟨sb, 0, none⟩), .agg #[.int .i64 (own : Nat), .slice none 0 0, .slice qa K qc, .slice none 0 0, .slice none 0 0, .slice none 0 0]] w6 fun e w' => e = .returned (.tuple #[]) ∧ w'.cell? ⟨vb, 1, none⟩ = some (.int .i64 (n : Nat)) ∧ ∃ mb W8, Hid (w'.heap.size = mb) ∧ Hid (w'.alloc (.cells (madeCells #[.int .u64 0] n) 45) = W8) ∧ W8.cell? ⟨vb, 2, none⟩ = some (.int .i64 (c : Nat)) ∧ W8.cell? ⟨vb, 5, none⟩ = some (.int .i64 (m : Nat)) ∧ Hid (DX W0 nodes n own m c CF vb sb mb lim (holdM hs c) qa qc K 0 W8)) := by
    have hK' := hK
    subst hK
    refine (hSB0.look hSB0.qu.q (by omega) _ _ _ _ _).mono fun e w' ⟨he, hh⟩ => ?_
    obtain ⟨O', p', h1, _⟩ := hh.out
    have s8 : w'.Since w'.heap.size (w'.alloc (.cells (madeCells #[.int .u64 0] n) 45)) := (World.Since.refl _ _).alloc (Nat.le_refl _) _
    have cn : ∀ q v, CF.toList[q]? = some v → w'.cell? ⟨vb, q, none⟩ = some v := fun q v hv => by
      have := h1.cf.1 q v hv
      rw [Nat.zero_add] at this
      exact this
    have h2 := DX.start (lim := lim) (hold := holdM hs c) h1 rfl h16 hlq hb.2.2.2.2.2.2.1 hb.2.2.2.2.1 (fun i _ => holdM_lt hs c i hb.2.2.2.2.1) (by rw [hL1, hlim]) rfl rfl
    exact ⟨he, cn 1 _ (by rw [← hCF]; rfl), _, _, rfl, rfl, cell_later s8 (cn 2 _ (by rw [← hCF]; rfl)), cell_later s8 (cn 5 _ (by rw [← hCF]; rfl)), h2⟩
  have HN8 : Hid (1 ≤ n ∧ n ≤ 8 ∧ 1 ≤ c ∧ c ≤ 7 ∧ 1 ≤ m ∧ m ≤ 64 ∧ 1 ≤ nodes ∧ nodes ≤ 9 ∧ own < n) := ⟨hb.2.2.1, hb.2.2.2.1, hb.2.2.2.2.1, hb.2.2.2.2.2.1, hb.2.2.2.2.2.2.1, hb.2.2.2.2.2.2.2, hb.1, hb.2.1, ho⟩
  have HG := hide hg
  have HCF := hide hCF
  have HLB := hide hlimb
  clear hSB0 hK h16 hlq hCF hg hb ho HSE hL1 hlim hL1b hlimb
  go_upto_region 6 with (go_at_call 9; refine HLK.out.mono ?_; rintro e w8 ⟨rfl, cn, mb, W8, HMB, HW8, c2, c5, HY⟩)
  have hmk1 := run_make_row' (P := Try.prog) 37 45 (.int .u64 0) 8 Try.underlying37 infoU2 rfl .i64 .i64 n (by have := HN8.out; omega) (by have := HN8.out; omega)
  go_upto_region 7 with fail
  rw [HW8.out, HMB.out]
  clear HW8 HMB cn hmk1 HLK
  go_wp2_with fail
  clear c2 c5 hw1 hw2
  go_loopg [5, 8, 10, 11, 12, 13, 14] (mX lim 0 0) (fun g s5 s8 s10 s11 s12 s13 s14 wx => ∃ (T lost K1 : Nat) (qa1 : Option Addr) (qc1 : Nat), lost ≤ 200 ∧ g = mX lim lost T ∧ s5 = .slice qa1 K1 qc1 ∧ s8 = .int .i64 (lost : Nat) ∧ s10 = .int .i64 (T : Nat) ∧ Hid (DX W0 nodes n own m c CF vb sb mb lim (holdM hs c) qa1 qc1 K1 T wx))
  case atStart => exact ⟨0, 0, K, qa, qc, by decide, rfl, rfl, rfl, rfl, HY.out⟩
  case round =>
    clear HY
    obtain ⟨T, lost, K1, qa1, qc1, hlo, rfl, rfl, rfl, rfl, HX⟩ := hrel
    by_cases hT : T ≤ lim
    · have zT : (T : Int) ≤ (lim : Int) := by omega
      by_cases hK0 : 0 < K1
      · have zK : (0 : Int) < (K1 : Int) := by omega
        have HTL := hide hT
        have HLO := hide hlo
        have HTK := hide (HX.out.tick hT)
        clear hK0 hT hlo HX
        go_upto_region 13 with (go_at_call 8; refine HTK.out.mono ?_; rintro e w9 ⟨a, cc, M, rfl, HM0⟩)
        have HM8 : Hid (M ≤ 8) := by have := HM0.out.1; have := HN8.out.2.1; show M ≤ 8; omega
        have HD0 : Hid (DY W0 nodes n own m c CF vb sb mb lim (holdM hs c) qa1 qc1 K1 T 0 a cc M w9) := HM0.out.2.2
        clear HTK HM0 zT zK
        go_wp2_with fail
        go_loopg [5, 8, 10, 12, 13, 14] M (fun g s5 s8 s10 s12 s13 s14 wx => ∃ (j T2 lost2 K2 : Nat) (qa2 : Option Addr) (qc2 : Nat), j ≤ M ∧ g = M - j ∧ s5 = .slice qa2 K2 qc2 ∧ s8 = .int .i64 (lost2 : Nat) ∧ s10 = .int .i64 (T2 : Nat) ∧ s12 = .int .i64 (j : Nat) ∧ Hid ((lost2 = lost ∧ T2 = T ∨ lost < lost2 ∧ lost2 ≤ 200 ∧ T2 = 0) ∧ DY W0 nodes n own m c CF vb sb mb lim (holdM hs c) qa2 qc2 K2 T2 j a cc M wx))
        case atStart => exact ⟨0, T, lost, K1, qa1, qc1, Nat.zero_le _, rfl, rfl, rfl, rfl, rfl, .inl ⟨rfl, rfl⟩, HD0.out⟩
        case round =>
          clear HD0
          obtain ⟨j, T2, lost2, K2, qa2, qc2, hj, rfl, rfl, rfl, rfl, rfl, HX⟩ := hrel
          by_cases hlt : j < M
          · have z1 : (j : Int) < (M : Int) := by omega
            have z0 : (0 : Int) ≤ (j : Int) := by omega
            have hwi : IntKind.i64.wrap ((j : Int) + 1) = (j : Int) + 1 := by have := HM8.out; rw [IntKind.wrap_i64]; omega
            have hme : M - (j + 1) < M - j := by omega
            have HJ := hide hlt
            have HPH := hide HX.out.1
            obtain ⟨b, i, t, nu, x, MA, rfl, hin, htc, hnu, HR, HRL, W1, W2, gb, HGB, HW1, HT1, HI1, HO1, HW2, HZ⟩ := HX.out.2.take hlt
            have HIN : Hid (i < n ∧ t < c ∧ nu < 18446744073709551616) := ⟨hin, htc, hnu⟩
            clear HX hj hlt hin htc hnu
            go_upto_region 17 with (first
              | (refine wpList_load_mid rfl 53 _ rfl b (j * 22) rfl MA.toList _ HR.out Try.underlying53 rfl HRL.out ?_)
              | (rw [HW1.out, HGB.out]; clear HW1)
              | (refine wpList_store_mid rfl 53 _ _ rfl gb 0 MA rfl rfl HT1.out HI1.out HO1.out ?_; rw [HW2.out]))
            clear HR HRL HT1 HI1 HO1 HW2
            obtain ⟨c11, c12, c2x, k, hk, cmk, fmk⟩ := HZ.out.cells HIN.out.1
            have c6 : W2.cell? ⟨pb, 6, none⟩ = some (.slice ha HL hc) := HP6.out _ HZ.out.since
            have cc2 : W2.cell? ⟨vb, 2, none⟩ = some (.int .i64 (c : Nat)) := HZ.out.cf (by rw [← HCF.out]; rfl)
            obtain ⟨ho, HHO⟩ : ∃ ho, Hid (holdM hs c i = ho) := ⟨_, rfl⟩
            clear c12 c2x cmk fmk hk
            go_upto_if 73 with fail
            go_cut [14] from 58 to 179 (fun s14 wx => s14 = .int .i64 (ho : Nat) ∧ Hid (DZ W0 nodes n own m c CF vb sb mb lim (holdM hs c) qa2 qc2 K2 T2 j (some ⟨b, 0, none⟩) cc M gb i t nu x wx))
            case first =>
              by_cases hil : i < HL
              · have zi : (i : Int) < (HL : Int) := by omega
                have zi0 : (0 : Int) ≤ (i : Int) := by omega
                obtain ⟨y, hy⟩ : ∃ y, hs[i]? = some y := ⟨_, List.getElem?_eq_getElem (by have := HHL.out; omega)⟩
                obtain ⟨hb, hof, rfl, ch, _⟩ := HIH.out W2 HZ.out.since i y hy
                have hho : (y % (c : Int)).toNat = ho := by
                  rw [← HHO.out]
                  unfold holdM
                  rw [if_pos (by rw [HHL.out]; exact hil), List.getD_eq_getElem?_getD, hy]
                  rfl
                have HIK : Hid (∀ q, Calls Try.prog 12 #[.int .i64 y, .int .i64 (c : Nat)] (W2.drewN q) fun e w' => e = .returned (.int .i64 (ho : Nat)) ∧ w' = W2.drewN q) := fun q =>
                  (intoS_any y c (by have := HN8.out; omega) (by have := HN8.out; omega) (W2.drewN q)).mono fun e w' ⟨h1, k, hk, hq, he⟩ => ⟨by rw [he, ← hho, ← hq]; rfl, h1.symm⟩
                have HZQ : Hid (∀ q, DZ W0 nodes n own m c CF vb sb mb lim (holdM hs c) qa2 qc2 K2 T2 j (some ⟨b, 0, none⟩) cc M gb i t nu x (W2.drewN q)) := fun q => HZ.out.later ⟨rfl, rfl, rfl, Nat.le_refl _, fun _ _ => rfl⟩
                clear hy hil hho
                go_upto_region 19 with fail
                go_quiet (with_reducible exact Calls.quiet_of_same (HIK.out _))
                go_wp2_with fail
                go_meet
                case rel => go_light; exact ⟨rfl, HZQ.out _⟩
              · have zi : ¬ (i : Int) < (HL : Int) := by omega
                have hho : ho = 0 := by
                  rw [← HHO.out]
                  unfold holdM
                  rw [if_neg (by rw [HHL.out]; exact hil)]
                subst hho
                clear hil
                go_wp2_with fail
                go_meet
                case rel => go_light; exact ⟨rfl, HZ.out⟩
            case rest =>
            clear HZ c11 c6 cc2
            obtain ⟨rfl, HZ⟩ := hcut
            have c7 : wc.cell? ⟨pb, 7, none⟩ = some (.slice xa XL xc) := HP7.out _ HZ.out.since
            obtain ⟨B, HB⟩ : ∃ B, Hid (decide (lost2 < XL ∧ lost2 < 200) = B) := ⟨_, rfl⟩
            go_upto_region 20 with fail
            go_cut [91] from 58 to 179 (fun s91 wx => s91 = .bool B ∧ Hid (wc = wx))
            case first =>
              by_cases hx1 : lost2 < XL
              · have y1 : (lost2 : Int) < (XL : Int) := by omega
                by_cases hx2 : lost2 < 200
                · have y2 : (lost2 : Int) < 200 := by omega
                  obtain rfl : B = true := by rw [← HB.out]; exact decide_eq_true ⟨hx1, hx2⟩
                  go_wp2_with fail
                  go_meet
                  case rel => go_light; exact ⟨rfl, rfl⟩
                · have y2 : ¬ (lost2 : Int) < 200 := by omega
                  obtain rfl : B = false := by rw [← HB.out]; exact decide_eq_false fun h => hx2 h.2
                  go_wp2_with fail
                  go_meet
                  case rel => go_light; exact ⟨rfl, rfl⟩
              · have y1 : ¬ (lost2 : Int) < (XL : Int) := by omega
                obtain rfl : B = false := by rw [← HB.out]; exact decide_eq_false fun h => hx1 h.1
                go_wp2_with fail
                go_meet
                case rel => go_light; exact ⟨rfl, rfl⟩
            case rest =>
            obtain ⟨rfl, HWQ⟩ := hcut
            obtain rfl := HWQ.out
            clear HWQ
            go_upto_if 91 with fail
            go_cut [8, 10] from 58 to 179 (fun s8 s10 wx => ∃ T3 lost3 : Nat, s8 = .int .i64 (lost3 : Nat) ∧ s10 = .int .i64 (T3 : Nat) ∧ Hid ((lost3 = lost ∧ T3 = T ∨ lost < lost3 ∧ lost3 ≤ 200 ∧ T3 = 0) ∧ DZ W0 nodes n own m c CF vb sb mb lim (holdM hs c) qa2 qc2 K2 T3 j (some ⟨b, 0, none⟩) cc M gb i t nu x wx))
            case first =>
              cases B
              · go_wp2_with fail
                go_meet
                case rel => go_light; exact ⟨T2, lost2, rfl, rfl, HPH.out, HZ.out⟩
              · have hx : lost2 < XL ∧ lost2 < 200 := of_decide_eq_true HB.out
                obtain ⟨y, hy⟩ : ∃ y, xs[lost2]? = some y := ⟨_, List.getElem?_eq_getElem (by have := HXL.out; omega)⟩
                obtain ⟨xb, xo, rfl, cx, _⟩ := HIX.out _ HZ.out.since lost2 y hy
                obtain ⟨l1, hl1⟩ : ∃ l1, lost2 + 1 = l1 := ⟨_, rfl⟩
                have hwl : IntKind.i64.wrap ((lost2 : Int) + 1) = (l1 : Int) := by rw [IntKind.wrap_i64]; omega
                have hwm : IntKind.i64.wrap ((l1 : Int) - 1) = (lost2 : Int) := by rw [IntKind.wrap_i64]; omega
                have y1 : (lost2 : Int) < (XL : Int) := by omega
                have y0 : (0 : Int) ≤ (lost2 : Int) := by omega
                have HPN : Hid (lost < l1 ∧ l1 ≤ 200) := by
                  have := HPH.out
                  have := HLO.out
                  exact ⟨by omega, by omega⟩
                have HDL : Hid (DY W0 nodes n own m c CF vb sb mb lim (holdM hs c) qa2 qc2 K2 0 (j + 1) (some ⟨b, 0, none⟩) cc M wc) := HZ.out.lost
                have HZ0 : Hid (DZ W0 nodes n own m c CF vb sb mb lim (holdM hs c) qa2 qc2 K2 0 j (some ⟨b, 0, none⟩) cc M gb i t nu x wc) := HZ.out.weak (Nat.zero_le _)
                clear hx hy hl1
                go_wp2_with fail
                · go_roundg (M - (j + 1))
                  case measure => go_light; exact hme
                  case rel => go_light; exact ⟨j + 1, 0, l1, K2, qa2, qc2, HJ.out, rfl, rfl, rfl, rfl, by simp, .inr ⟨HPN.out.1, HPN.out.2, rfl⟩, HDL.out⟩
                · go_meet
                  case rel => go_light; exact ⟨0, l1, rfl, rfl, .inr ⟨HPN.out.1, HPN.out.2, rfl⟩, HZ0.out⟩
            case rest =>
            clear HZ c7 HPH HB
            obtain ⟨T3, lost3, rfl, rfl, HC⟩ := hcut
            obtain ⟨k, hk⟩ : ∃ k, nu = k + 1 := (HC.out.2.cells HIN.out.1).2.2.2.imp fun _ h => h.1
            have hcl : ∀ W, (DZ W0 nodes n own m c CF vb sb mb lim (holdM hs c) qa2 qc2 K2 T3 j (some ⟨b, 0, none⟩) cc M gb i t nu x W) → (fun W => W.cell? ⟨gb, 11, none⟩ = some (.int .i64 (i : Nat)) ∧ W.cell? ⟨gb, 12, none⟩ = some (.int .u64 (nu : Nat)) ∧ W.cell? ⟨gb, 2, none⟩ = some (.int .i64 x) ∧ W.cell? ⟨mb, i, none⟩ = some (.int .u64 (k : Nat)) ∧ W.rangeAt vb 0 CF.toList) W := fun W h => by
              obtain ⟨v1, v2, v3, k2, h4, v4, _⟩ := h.cells HIN.out.1
              obtain rfl : k = k2 := by omega
              exact ⟨v1, v2, v3, v4, h.range⟩
            have HCL := hide hcl
            have HS0 : Hid ((fun W => W.cell? ⟨gb, 11, none⟩ = some (.int .i64 (i : Nat)) ∧ W.cell? ⟨gb, 12, none⟩ = some (.int .u64 (nu : Nat)) ∧ W.cell? ⟨gb, 2, none⟩ = some (.int .i64 x) ∧ W.cell? ⟨mb, i, none⟩ = some (.int .u64 (k : Nat)) ∧ W.rangeAt vb 0 CF.toList) wc.drew) := hcl _ (HC.out.2.later ((World.Since.refl _ _).drew))
            have HPO : Hid (Calls Try.prog 11 #[.agg CF, .int .i64 (i : Nat), .int .i64 x] wc.drew fun e' w6 => e' = .returned (.int .i64 (t : Nat)) ∧ Hid ((fun W => W.cell? ⟨gb, 11, none⟩ = some (.int .i64 (i : Nat)) ∧ W.cell? ⟨gb, 12, none⟩ = some (.int .u64 (nu : Nat)) ∧ W.cell? ⟨gb, 2, none⟩ = some (.int .i64 x) ∧ W.cell? ⟨mb, i, none⟩ = some (.int .u64 (k : Nat)) ∧ W.rangeAt vb 0 CF.toList) w6) ∧ Hid (DZ W0 nodes n own m c CF vb sb mb lim (holdM hs c) qa2 qc2 K2 T3 j (some ⟨b, 0, none⟩) cc M gb i t nu x w6)) :=
              ((HC.out.2.later ((World.Since.refl _ _).drew)).place HCF.out HG.out).mono fun e' w6 ⟨h1, h2⟩ => ⟨h1, hcl _ h2.out, h2⟩
            have HKN : Hid (nu = k + 1) := hk
            have zi0 : (0 : Int) ≤ (i : Int) := by omega
            have zin : (i : Int) < (n : Int) := by have := HIN.out.1; omega
            have hwk : IntKind.u64.wrap ((k : Int) + 1) = (nu : Int) := by have := HIN.out.2.2; rw [IntKind.wrap_u64]; omega
            obtain ⟨B, HB⟩ : ∃ B, Hid ((!decide (t = ho)) = B) := ⟨_, rfl⟩
            clear hcl hk
            go_upto_region 24 with fail
            go_cut [121] from 58 to 179 (fun s121 wx => s121 = .bool B ∧ Hid (DZ W0 nodes n own m c CF vb sb mb lim (holdM hs c) qa2 qc2 K2 T3 j (some ⟨b, 0, none⟩) cc M gb i t nu x wx))
            case first =>
              as_aux_lemma =>
                by_cases hth : t = ho
                · have q0 : ((t : Int) != (ho : Int)) = false := by simp [hth]
                  obtain rfl : B = false := by rw [← HB.out]; simp [hth]
                  refine wp_region_held_drew (S := (fun W => W.cell? ⟨gb, 11, none⟩ = some (.int .i64 (i : Nat)) ∧ W.cell? ⟨gb, 12, none⟩ = some (.int .u64 (nu : Nat)) ∧ W.cell? ⟨gb, 2, none⟩ = some (.int .i64 x) ∧ W.cell? ⟨mb, i, none⟩ = some (.int .u64 (k : Nat)) ∧ W.rangeAt vb 0 CF.toList)) (by kernel_rfl) HS0.out fun _ => ?_
                  refine wpAnyH_take (i := 0) (v := .agg CF) rfl (by kernel_rfl) (by kernel_rfl) (by kernel_rfl) (fun _ _ _ h => h) (yieldsIf_load_mid rfl 27 _ rfl vb 0 rfl CF.toList _ (fun W hW => hW.2.2.2.2) Try.underlying27 rfl HCI.out) HS0.out ?_
                  simp only [List.getElem_toArray, List.getElem_cons_zero, Act.put, List.setIfInBounds_toArray, List.set_cons_zero, List.set_cons_succ]
                  refine wpAnyH_take (i := 1) (v := .pointer (some ⟨gb, 11, none⟩)) rfl (by kernel_rfl) (by kernel_rfl) (by kernel_rfl) (fun _ _ _ h => h) (.inl ⟨rfl, fun W hW => by obtain ⟨v1, v2, v3, v4, _⟩ := hW; first | kernel_rfl | go_simp⟩) HS0.out ?_
                  simp only [List.getElem_toArray, List.getElem_cons_zero, List.getElem_cons_succ, Act.put, List.setIfInBounds_toArray, List.set_cons_zero, List.set_cons_succ]
                  refine wpAnyH_take (i := 2) (v := .int .i64 (i : Nat)) rfl (by kernel_rfl) (by kernel_rfl) (by kernel_rfl) (fun _ _ _ h => h) (.inl ⟨rfl, fun W hW => by obtain ⟨v1, v2, v3, v4, _⟩ := hW; go_simp⟩) HS0.out ?_
                  simp only [List.getElem_toArray, List.getElem_cons_zero, List.getElem_cons_succ, Act.put, List.setIfInBounds_toArray, List.set_cons_zero, List.set_cons_succ]
                  refine wpAnyH_take (i := 3) (v := .pointer (some ⟨gb, 0, none⟩)) rfl (by kernel_rfl) (by kernel_rfl) (by kernel_rfl) (fun _ _ _ h => h) (.inl ⟨rfl, fun W hW => by obtain ⟨v1, v2, v3, v4, _⟩ := hW; first | kernel_rfl | go_simp⟩) HS0.out ?_
                  simp only [List.getElem_toArray, List.getElem_cons_zero, List.getElem_cons_succ, Act.put, List.setIfInBounds_toArray, List.set_cons_zero, List.set_cons_succ]
                  refine wpAnyH_take (i := 4) (v := .pointer (some ⟨gb, 2, none⟩)) rfl (by kernel_rfl) (by kernel_rfl) (by kernel_rfl) (fun _ _ _ h => h) (.inl ⟨rfl, fun W hW => by obtain ⟨v1, v2, v3, v4, _⟩ := hW; first | kernel_rfl | go_simp⟩) HS0.out ?_
                  simp only [List.getElem_toArray, List.getElem_cons_zero, List.getElem_cons_succ, Act.put, List.setIfInBounds_toArray, List.set_cons_zero, List.set_cons_succ]
                  refine wpAnyH_take (i := 5) (v := .int .i64 x) rfl (by kernel_rfl) (by kernel_rfl) (by kernel_rfl) (fun _ _ _ h => h) (.inl ⟨rfl, fun W hW => by obtain ⟨v1, v2, v3, v4, _⟩ := hW; go_simp⟩) HS0.out ?_
                  simp only [List.getElem_toArray, List.getElem_cons_zero, List.getElem_cons_succ, Act.put, List.setIfInBounds_toArray, List.set_cons_zero, List.set_cons_succ]
                  refine wpAnyH_take (i := 7) (v := .int .i64 (ho : Nat)) rfl (by kernel_rfl) (by kernel_rfl) (by kernel_rfl) (fun _ _ _ h => h) (.inl ⟨rfl, fun W hW => by kernel_rfl⟩) HS0.out ?_
                  simp only [List.getElem_toArray, List.getElem_cons_zero, List.getElem_cons_succ, Act.put, List.setIfInBounds_toArray, List.set_cons_zero, List.set_cons_succ]
                  refine wpAnyH_ready (rs := [6]) (by kernel_rfl) (by simp) ?_
                  refine AllReadyH.cons rfl (fun KC hKC => ?_) AllReadyH.nil
                  refine step_callW rfl 11 #[.agg CF, .int .i64 (i : Nat), .int .i64 x] (by kernel_rfl) HPO.out ?_
                  rintro e' w7 ⟨rfl, HS7, HZ7⟩
                  refine ⟨_, rfl, hKC.out _ _ HS7.out fun _ => ?_⟩
                  clear hKC HPO
                  simp only [List.getElem_toArray, List.getElem_cons_zero, List.getElem_cons_succ, Act.put, List.setIfInBounds_toArray, List.set_cons_zero, List.set_cons_succ]
                  refine wpAnyH_take (i := 8) (v := .bool false) rfl (by kernel_rfl) (by kernel_rfl) (by kernel_rfl) (fun _ _ _ h => h) (.inl ⟨rfl, fun W hW => by go_simp⟩) HS7.out ?_
                  simp only [List.getElem_toArray, List.getElem_cons_zero, List.getElem_cons_succ, Act.put, List.setIfInBounds_toArray, List.set_cons_zero, List.set_cons_succ]
                  refine wpAnyH_take (i := 9) (v := .bool false) rfl (by kernel_rfl) (by kernel_rfl) (by kernel_rfl) (fun _ _ _ h => h) (.inl ⟨rfl, fun W hW => by first | kernel_rfl | go_simp⟩) HS7.out ?_
                  simp only [List.getElem_toArray, List.getElem_cons_zero, List.getElem_cons_succ, Act.put, List.setIfInBounds_toArray, List.set_cons_zero, List.set_cons_succ]
                  refine wpAnyH_take (i := 10) (v := .pointer (some ⟨gb, 12, none⟩)) rfl (by kernel_rfl) (by kernel_rfl) (by kernel_rfl) (fun _ _ _ h => h) (.inl ⟨rfl, fun W hW => by obtain ⟨v1, v2, v3, v4, _⟩ := hW; first | kernel_rfl | go_simp⟩) HS7.out ?_
                  simp only [List.getElem_toArray, List.getElem_cons_zero, List.getElem_cons_succ, Act.put, List.setIfInBounds_toArray, List.set_cons_zero, List.set_cons_succ]
                  refine wpAnyH_take (i := 11) (v := .int .u64 (nu : Nat)) rfl (by kernel_rfl) (by kernel_rfl) (by kernel_rfl) (fun _ _ _ h => h) (.inl ⟨rfl, fun W hW => by obtain ⟨v1, v2, v3, v4, _⟩ := hW; go_simp⟩) HS7.out ?_
                  simp only [List.getElem_toArray, List.getElem_cons_zero, List.getElem_cons_succ, Act.put, List.setIfInBounds_toArray, List.set_cons_zero, List.set_cons_succ]
                  refine wpAnyH_take (i := 12) (v := .slice (some ⟨mb, 0, none⟩) n n) rfl (by kernel_rfl) (by kernel_rfl) (by kernel_rfl) (fun _ _ _ h => h) (.inl ⟨rfl, fun W hW => by first | kernel_rfl | go_simp⟩) HS7.out ?_
                  simp only [List.getElem_toArray, List.getElem_cons_zero, List.getElem_cons_succ, Act.put, List.setIfInBounds_toArray, List.set_cons_zero, List.set_cons_succ]
                  refine wpAnyH_take (i := 13) (v := .pointer (some ⟨gb, 11, none⟩)) rfl (by kernel_rfl) (by kernel_rfl) (by kernel_rfl) (fun _ _ _ h => h) (.inl ⟨rfl, fun W hW => by obtain ⟨v1, v2, v3, v4, _⟩ := hW; first | kernel_rfl | go_simp⟩) HS7.out ?_
                  simp only [List.getElem_toArray, List.getElem_cons_zero, List.getElem_cons_succ, Act.put, List.setIfInBounds_toArray, List.set_cons_zero, List.set_cons_succ]
                  refine wpAnyH_take (i := 14) (v := .int .i64 (i : Nat)) rfl (by kernel_rfl) (by kernel_rfl) (by kernel_rfl) (fun _ _ _ h => h) (.inl ⟨rfl, fun W hW => by obtain ⟨v1, v2, v3, v4, _⟩ := hW; go_simp⟩) HS7.out ?_
                  simp only [List.getElem_toArray, List.getElem_cons_zero, List.getElem_cons_succ, Act.put, List.setIfInBounds_toArray, List.set_cons_zero, List.set_cons_succ]
                  refine wpAnyH_take (i := 15) (v := .pointer (some ⟨mb, i, none⟩)) rfl (by kernel_rfl) (by kernel_rfl) (by kernel_rfl) (fun _ _ _ h => h) (.inl ⟨rfl, fun W hW => by go_simp⟩) HS7.out ?_
                  simp only [List.getElem_toArray, List.getElem_cons_zero, List.getElem_cons_succ, Act.put, List.setIfInBounds_toArray, List.set_cons_zero, List.set_cons_succ]
                  refine wpAnyH_take (i := 16) (v := .int .u64 (k : Nat)) rfl (by kernel_rfl) (by kernel_rfl) (by kernel_rfl) (fun _ _ _ h => h) (.inl ⟨rfl, fun W hW => by obtain ⟨v1, v2, v3, v4, _⟩ := hW; go_simp⟩) HS7.out ?_
                  simp only [List.getElem_toArray, List.getElem_cons_zero, List.getElem_cons_succ, Act.put, List.setIfInBounds_toArray, List.set_cons_zero, List.set_cons_succ]
                  refine wpAnyH_take (i := 17) (v := .int .u64 (nu : Nat)) rfl (by kernel_rfl) (by kernel_rfl) (by kernel_rfl) (fun _ _ _ h => h) (.inl ⟨rfl, fun W hW => by go_simp⟩) HS7.out ?_
                  simp only [List.getElem_toArray, List.getElem_cons_zero, List.getElem_cons_succ, Act.put, List.setIfInBounds_toArray, List.set_cons_zero, List.set_cons_succ]
                  refine wpAnyH_take (i := 18) (v := .bool false) rfl (by kernel_rfl) (by kernel_rfl) (by kernel_rfl) (fun _ _ _ h => h) (.inl ⟨rfl, fun W hW => by go_simp⟩) HS7.out ?_
                  simp only [List.getElem_toArray, List.getElem_cons_zero, List.getElem_cons_succ, Act.put, List.setIfInBounds_toArray, List.set_cons_zero, List.set_cons_succ]
                  refine wpAnyH_take (i := 19) (v := .bool false) rfl (by kernel_rfl) (by kernel_rfl) (by kernel_rfl) (fun _ _ _ h => h) (.inl ⟨rfl, fun W hW => by first | kernel_rfl | go_simp⟩) HS7.out ?_
                  simp only [List.getElem_toArray, List.getElem_cons_zero, List.getElem_cons_succ, Act.put, List.setIfInBounds_toArray, List.set_cons_zero, List.set_cons_succ]
                  refine wpAnyH_done (by kernel_rfl) ?_ _
                  go_wp2_with fail
                  go_meet
                  case rel => go_light; exact ⟨rfl, HZ7.out⟩
                · have q0 : ((t : Int) != (ho : Int)) = true := by simp; omega
                  obtain rfl : B = true := by rw [← HB.out]; simp [hth]
                  refine wp_region_held_drew (S := (fun W => W.cell? ⟨gb, 11, none⟩ = some (.int .i64 (i : Nat)) ∧ W.cell? ⟨gb, 12, none⟩ = some (.int .u64 (nu : Nat)) ∧ W.cell? ⟨gb, 2, none⟩ = some (.int .i64 x) ∧ W.cell? ⟨mb, i, none⟩ = some (.int .u64 (k : Nat)) ∧ W.rangeAt vb 0 CF.toList)) (by kernel_rfl) HS0.out fun _ => ?_
                  refine wpAnyH_take (i := 0) (v := .agg CF) rfl (by kernel_rfl) (by kernel_rfl) (by kernel_rfl) (fun _ _ _ h => h) (yieldsIf_load_mid rfl 27 _ rfl vb 0 rfl CF.toList _ (fun W hW => hW.2.2.2.2) Try.underlying27 rfl HCI.out) HS0.out ?_
                  simp only [List.getElem_toArray, List.getElem_cons_zero, Act.put, List.setIfInBounds_toArray, List.set_cons_zero, List.set_cons_succ]
                  refine wpAnyH_take (i := 1) (v := .pointer (some ⟨gb, 11, none⟩)) rfl (by kernel_rfl) (by kernel_rfl) (by kernel_rfl) (fun _ _ _ h => h) (.inl ⟨rfl, fun W hW => by obtain ⟨v1, v2, v3, v4, _⟩ := hW; first | kernel_rfl | go_simp⟩) HS0.out ?_
                  simp only [List.getElem_toArray, List.getElem_cons_zero, List.getElem_cons_succ, Act.put, List.setIfInBounds_toArray, List.set_cons_zero, List.set_cons_succ]
                  refine wpAnyH_take (i := 2) (v := .int .i64 (i : Nat)) rfl (by kernel_rfl) (by kernel_rfl) (by kernel_rfl) (fun _ _ _ h => h) (.inl ⟨rfl, fun W hW => by obtain ⟨v1, v2, v3, v4, _⟩ := hW; go_simp⟩) HS0.out ?_
                  simp only [List.getElem_toArray, List.getElem_cons_zero, List.getElem_cons_succ, Act.put, List.setIfInBounds_toArray, List.set_cons_zero, List.set_cons_succ]
                  refine wpAnyH_take (i := 3) (v := .pointer (some ⟨gb, 0, none⟩)) rfl (by kernel_rfl) (by kernel_rfl) (by kernel_rfl) (fun _ _ _ h => h) (.inl ⟨rfl, fun W hW => by obtain ⟨v1, v2, v3, v4, _⟩ := hW; first | kernel_rfl | go_simp⟩) HS0.out ?_
                  simp only [List.getElem_toArray, List.getElem_cons_zero, List.getElem_cons_succ, Act.put, List.setIfInBounds_toArray, List.set_cons_zero, List.set_cons_succ]
                  refine wpAnyH_take (i := 4) (v := .pointer (some ⟨gb, 2, none⟩)) rfl (by kernel_rfl) (by kernel_rfl) (by kernel_rfl) (fun _ _ _ h => h) (.inl ⟨rfl, fun W hW => by obtain ⟨v1, v2, v3, v4, _⟩ := hW; first | kernel_rfl | go_simp⟩) HS0.out ?_
                  simp only [List.getElem_toArray, List.getElem_cons_zero, List.getElem_cons_succ, Act.put, List.setIfInBounds_toArray, List.set_cons_zero, List.set_cons_succ]
                  refine wpAnyH_take (i := 5) (v := .int .i64 x) rfl (by kernel_rfl) (by kernel_rfl) (by kernel_rfl) (fun _ _ _ h => h) (.inl ⟨rfl, fun W hW => by obtain ⟨v1, v2, v3, v4, _⟩ := hW; go_simp⟩) HS0.out ?_
                  simp only [List.getElem_toArray, List.getElem_cons_zero, List.getElem_cons_succ, Act.put, List.setIfInBounds_toArray, List.set_cons_zero, List.set_cons_succ]
                  refine wpAnyH_take (i := 7) (v := .int .i64 (ho : Nat)) rfl (by kernel_rfl) (by kernel_rfl) (by kernel_rfl) (fun _ _ _ h => h) (.inl ⟨rfl, fun W hW => by kernel_rfl⟩) HS0.out ?_
                  simp only [List.getElem_toArray, List.getElem_cons_zero, List.getElem_cons_succ, Act.put, List.setIfInBounds_toArray, List.set_cons_zero, List.set_cons_succ]
                  refine wpAnyH_ready (rs := [6]) (by kernel_rfl) (by simp) ?_
                  refine AllReadyH.cons rfl (fun KC hKC => ?_) AllReadyH.nil
                  refine step_callW rfl 11 #[.agg CF, .int .i64 (i : Nat), .int .i64 x] (by kernel_rfl) HPO.out ?_
                  rintro e' w7 ⟨rfl, HS7, HZ7⟩
                  refine ⟨_, rfl, hKC.out _ _ HS7.out fun _ => ?_⟩
                  clear hKC HPO
                  simp only [List.getElem_toArray, List.getElem_cons_zero, List.getElem_cons_succ, Act.put, List.setIfInBounds_toArray, List.set_cons_zero, List.set_cons_succ]
                  refine wpAnyH_take (i := 8) (v := .bool true) rfl (by kernel_rfl) (by kernel_rfl) (by kernel_rfl) (fun _ _ _ h => h) (.inl ⟨rfl, fun W hW => by go_simp⟩) HS7.out ?_
                  simp only [List.getElem_toArray, List.getElem_cons_zero, List.getElem_cons_succ, Act.put, List.setIfInBounds_toArray, List.set_cons_zero, List.set_cons_succ]
                  refine wpAnyH_take (i := 9) (v := .bool true) rfl (by kernel_rfl) (by kernel_rfl) (by kernel_rfl) (fun _ _ _ h => h) (.inl ⟨rfl, fun W hW => by first | kernel_rfl | go_simp⟩) HS7.out ?_
                  simp only [List.getElem_toArray, List.getElem_cons_zero, List.getElem_cons_succ, Act.put, List.setIfInBounds_toArray, List.set_cons_zero, List.set_cons_succ]
                  refine wpAnyH_take (i := 10) (v := undef) rfl (by kernel_rfl) (by kernel_rfl) (by kernel_rfl) (fun _ _ _ h => h) (.inr ⟨rfl, rfl⟩) HS7.out ?_
                  simp only [List.getElem_toArray, List.getElem_cons_zero, List.getElem_cons_succ, Act.put, List.setIfInBounds_toArray, List.set_cons_zero, List.set_cons_succ]
                  refine wpAnyH_take (i := 11) (v := undef) rfl (by kernel_rfl) (by kernel_rfl) (by kernel_rfl) (fun _ _ _ h => h) (.inr ⟨rfl, rfl⟩) HS7.out ?_
                  simp only [List.getElem_toArray, List.getElem_cons_zero, List.getElem_cons_succ, Act.put, List.setIfInBounds_toArray, List.set_cons_zero, List.set_cons_succ]
                  refine wpAnyH_take (i := 12) (v := undef) rfl (by kernel_rfl) (by kernel_rfl) (by kernel_rfl) (fun _ _ _ h => h) (.inr ⟨rfl, rfl⟩) HS7.out ?_
                  simp only [List.getElem_toArray, List.getElem_cons_zero, List.getElem_cons_succ, Act.put, List.setIfInBounds_toArray, List.set_cons_zero, List.set_cons_succ]
                  refine wpAnyH_take (i := 13) (v := undef) rfl (by kernel_rfl) (by kernel_rfl) (by kernel_rfl) (fun _ _ _ h => h) (.inr ⟨rfl, rfl⟩) HS7.out ?_
                  simp only [List.getElem_toArray, List.getElem_cons_zero, List.getElem_cons_succ, Act.put, List.setIfInBounds_toArray, List.set_cons_zero, List.set_cons_succ]
                  refine wpAnyH_take (i := 14) (v := undef) rfl (by kernel_rfl) (by kernel_rfl) (by kernel_rfl) (fun _ _ _ h => h) (.inr ⟨rfl, rfl⟩) HS7.out ?_
                  simp only [List.getElem_toArray, List.getElem_cons_zero, List.getElem_cons_succ, Act.put, List.setIfInBounds_toArray, List.set_cons_zero, List.set_cons_succ]
                  refine wpAnyH_take (i := 15) (v := undef) rfl (by kernel_rfl) (by kernel_rfl) (by kernel_rfl) (fun _ _ _ h => h) (.inr ⟨rfl, rfl⟩) HS7.out ?_
                  simp only [List.getElem_toArray, List.getElem_cons_zero, List.getElem_cons_succ, Act.put, List.setIfInBounds_toArray, List.set_cons_zero, List.set_cons_succ]
                  refine wpAnyH_take (i := 16) (v := undef) rfl (by kernel_rfl) (by kernel_rfl) (by kernel_rfl) (fun _ _ _ h => h) (.inr ⟨rfl, rfl⟩) HS7.out ?_
                  simp only [List.getElem_toArray, List.getElem_cons_zero, List.getElem_cons_succ, Act.put, List.setIfInBounds_toArray, List.set_cons_zero, List.set_cons_succ]
                  refine wpAnyH_take (i := 17) (v := undef) rfl (by kernel_rfl) (by kernel_rfl) (by kernel_rfl) (fun _ _ _ h => h) (.inr ⟨rfl, rfl⟩) HS7.out ?_
                  simp only [List.getElem_toArray, List.getElem_cons_zero, List.getElem_cons_succ, Act.put, List.setIfInBounds_toArray, List.set_cons_zero, List.set_cons_succ]
                  refine wpAnyH_take (i := 18) (v := undef) rfl (by kernel_rfl) (by kernel_rfl) (by kernel_rfl) (fun _ _ _ h => h) (.inr ⟨rfl, rfl⟩) HS7.out ?_
                  simp only [List.getElem_toArray, List.getElem_cons_zero, List.getElem_cons_succ, Act.put, List.setIfInBounds_toArray, List.set_cons_zero, List.set_cons_succ]
                  refine wpAnyH_take (i := 19) (v := .bool true) rfl (by kernel_rfl) (by kernel_rfl) (by kernel_rfl) (fun _ _ _ h => h) (.inl ⟨rfl, fun W hW => by first | kernel_rfl | go_simp⟩) HS7.out ?_
                  simp only [List.getElem_toArray, List.getElem_cons_zero, List.getElem_cons_succ, Act.put, List.setIfInBounds_toArray, List.set_cons_zero, List.set_cons_succ]
                  refine wpAnyH_done (by kernel_rfl) ?_ _
                  go_wp2_with fail
                  go_meet
                  case rel => go_light; exact ⟨rfl, HZ7.out⟩
            case rest =>
            clear HS0 HPO
            have HPHC := hide HC.out.1
            obtain ⟨rfl, HZ⟩ := hcut
            clear HC
            have HC1 := hide HPHC.out
            cases B
            · have hth : t = ho := by have := HB.out; simpa using this
              obtain ⟨v1, v2, v3, v4, _⟩ := HCL.out wc HZ.out
              go_upto_region 27 with fail
              go_quiet (fail)
              have HZQ : Hid (DZ W0 nodes n own m c CF vb sb mb lim (holdM hs c) qa2 qc2 K2 T3 j (some ⟨b, 0, none⟩) cc M gb i t nu x (wc.drewN nq)) := HZ.out.later ⟨rfl, rfl, rfl, Nat.le_refl _, fun _ _ => rfl⟩
              clear v1 v2 v3 v4 HZ hth
              generalize wc.drewN nq = wd at *
              obtain ⟨v1, v2, v3, k2, hk2, v4, fm⟩ := HZQ.out.cells HIN.out.1
              obtain rfl : k2 = k := by have := HKN.out; omega
              obtain ⟨W3, HW3⟩ : ∃ W, Hid (wd.setCell ⟨mb, i, none⟩ (.int .u64 (nu : Nat)) = W) := ⟨_, rfl⟩
              have HDW : Hid (DW W0 nodes n own m c CF vb sb mb lim (holdM hs c) qa2 qc2 K2 T3 j (some ⟨b, 0, none⟩) cc M gb i nu W3) := by rw [← HW3.out]; exact HZQ.out.credit
              clear hk2 v2 v3
              go_upto_region 29 with fail
              rw [HW3.out]
              clear v1 v4 fm HZQ
              have hd0 := HDW.out.later ((World.Since.refl _ _).drew)
              have HS0 : Hid ((fun W => W.cell? ⟨gb, 11, none⟩ = some (.int .i64 (i : Nat)) ∧ W.cell? ⟨mb, i, none⟩ = some (.int .u64 (nu : Nat))) W3.drew) := hd0.cells HIN.out.1
              have HWN : Hid (Calls Try.prog 13 #[.pointer (some ⟨sb, 0, none⟩), .int .i64 (i : Nat), .int .u64 (nu : Nat)] W3.drew fun e w' => e = .returned (.bool true) ∧ Hid ((fun W => W.cell? ⟨gb, 11, none⟩ = some (.int .i64 (i : Nat)) ∧ W.cell? ⟨mb, i, none⟩ = some (.int .u64 (nu : Nat))) w') ∧ Hid (Calls Try.prog 14 #[.slice qa2 K2 qc2, .int .i64 (i : Nat), .int .u64 (nu : Nat)] w' fun e w'' => e = .returned (.bool true) ∧ Hid ((fun W => W.cell? ⟨gb, 11, none⟩ = some (.int .i64 (i : Nat)) ∧ W.cell? ⟨mb, i, none⟩ = some (.int .u64 (nu : Nat))) w'') ∧ Hid (DW W0 nodes n own m c CF vb sb mb lim (holdM hs c) qa2 qc2 K2 T3 j (some ⟨b, 0, none⟩) cc M gb i nu w''))) := by
                refine hd0.wants.mono fun e w' ⟨he, hw⟩ => ?_
                subst hw
                refine ⟨he, hd0.cells HIN.out.1, ?_⟩
                refine hd0.has.mono fun e w'' ⟨he, hs⟩ => ?_
                have h2 := hd0.later hs.out
                exact ⟨he, h2.cells HIN.out.1, h2⟩
              clear hd0 HDW
              go_cut [165] from 58 to 179 (fun s165 wx => s165 = .bool false ∧ Hid (DW W0 nodes n own m c CF vb sb mb lim (holdM hs c) qa2 qc2 K2 T3 j (some ⟨b, 0, none⟩) cc M gb i nu wx))
              case first =>
                as_aux_lemma =>
                  refine wp_region_held_drew (S := (fun W => W.cell? ⟨gb, 11, none⟩ = some (.int .i64 (i : Nat)) ∧ W.cell? ⟨mb, i, none⟩ = some (.int .u64 (nu : Nat)))) (by kernel_rfl) HS0.out fun _ => ?_
                  refine wpAnyH_take (i := 0) (v := .pointer (some ⟨sb, 0, none⟩)) rfl (by kernel_rfl) (by kernel_rfl) (by kernel_rfl) (fun _ _ _ h => h) (.inl ⟨rfl, fun W hW => by first | kernel_rfl | go_simp⟩) HS0.out ?_
                  simp only [List.getElem_toArray, List.getElem_cons_zero, Act.put, List.setIfInBounds_toArray, List.set_cons_zero, List.set_cons_succ]
                  refine wpAnyH_take (i := 1) (v := .pointer (some ⟨gb, 11, none⟩)) rfl (by kernel_rfl) (by kernel_rfl) (by kernel_rfl) (fun _ _ _ h => h) (.inl ⟨rfl, fun W hW => by obtain ⟨v1, v2⟩ := hW; first | kernel_rfl | go_simp⟩) HS0.out ?_
                  simp only [List.getElem_toArray, List.getElem_cons_zero, List.getElem_cons_succ, Act.put, List.setIfInBounds_toArray, List.set_cons_zero, List.set_cons_succ]
                  refine wpAnyH_take (i := 2) (v := .int .i64 (i : Nat)) rfl (by kernel_rfl) (by kernel_rfl) (by kernel_rfl) (fun _ _ _ h => h) (.inl ⟨rfl, fun W hW => by obtain ⟨v1, v2⟩ := hW; go_simp⟩) HS0.out ?_
                  simp only [List.getElem_toArray, List.getElem_cons_zero, List.getElem_cons_succ, Act.put, List.setIfInBounds_toArray, List.set_cons_zero, List.set_cons_succ]
                  refine wpAnyH_take (i := 3) (v := .slice (some ⟨mb, 0, none⟩) n n) rfl (by kernel_rfl) (by kernel_rfl) (by kernel_rfl) (fun _ _ _ h => h) (.inl ⟨rfl, fun W hW => by first | kernel_rfl | go_simp⟩) HS0.out ?_
                  simp only [List.getElem_toArray, List.getElem_cons_zero, List.getElem_cons_succ, Act.put, List.setIfInBounds_toArray, List.set_cons_zero, List.set_cons_succ]
                  refine wpAnyH_take (i := 4) (v := .pointer (some ⟨gb, 11, none⟩)) rfl (by kernel_rfl) (by kernel_rfl) (by kernel_rfl) (fun _ _ _ h => h) (.inl ⟨rfl, fun W hW => by obtain ⟨v1, v2⟩ := hW; first | kernel_rfl | go_simp⟩) HS0.out ?_
                  simp only [List.getElem_toArray, List.getElem_cons_zero, List.getElem_cons_succ, Act.put, List.setIfInBounds_toArray, List.set_cons_zero, List.set_cons_succ]
                  refine wpAnyH_take (i := 5) (v := .int .i64 (i : Nat)) rfl (by kernel_rfl) (by kernel_rfl) (by kernel_rfl) (fun _ _ _ h => h) (.inl ⟨rfl, fun W hW => by obtain ⟨v1, v2⟩ := hW; go_simp⟩) HS0.out ?_
                  simp only [List.getElem_toArray, List.getElem_cons_zero, List.getElem_cons_succ, Act.put, List.setIfInBounds_toArray, List.set_cons_zero, List.set_cons_succ]
                  refine wpAnyH_take (i := 6) (v := .pointer (some ⟨mb, i, none⟩)) rfl (by kernel_rfl) (by kernel_rfl) (by kernel_rfl) (fun _ _ _ h => h) (.inl ⟨rfl, fun W hW => by go_simp⟩) HS0.out ?_
                  simp only [List.getElem_toArray, List.getElem_cons_zero, List.getElem_cons_succ, Act.put, List.setIfInBounds_toArray, List.set_cons_zero, List.set_cons_succ]
                  refine wpAnyH_take (i := 7) (v := .int .u64 (nu : Nat)) rfl (by kernel_rfl) (by kernel_rfl) (by kernel_rfl) (fun _ _ _ h => h) (.inl ⟨rfl, fun W hW => by obtain ⟨v1, v2⟩ := hW; go_simp⟩) HS0.out ?_
                  simp only [List.getElem_toArray, List.getElem_cons_zero, List.getElem_cons_succ, Act.put, List.setIfInBounds_toArray, List.set_cons_zero, List.set_cons_succ]
                  refine wpAnyH_take (i := 9) (v := .slice qa2 K2 qc2) rfl (by kernel_rfl) (by kernel_rfl) (by kernel_rfl) (fun _ _ _ h => h) (.inl ⟨rfl, fun W hW => by first | kernel_rfl | go_simp⟩) HS0.out ?_
                  simp only [List.getElem_toArray, List.getElem_cons_zero, List.getElem_cons_succ, Act.put, List.setIfInBounds_toArray, List.set_cons_zero, List.set_cons_succ]
                  refine wpAnyH_take (i := 10) (v := .pointer (some ⟨gb, 11, none⟩)) rfl (by kernel_rfl) (by kernel_rfl) (by kernel_rfl) (fun _ _ _ h => h) (.inl ⟨rfl, fun W hW => by obtain ⟨v1, v2⟩ := hW; first | kernel_rfl | go_simp⟩) HS0.out ?_
                  simp only [List.getElem_toArray, List.getElem_cons_zero, List.getElem_cons_succ, Act.put, List.setIfInBounds_toArray, List.set_cons_zero, List.set_cons_succ]
                  refine wpAnyH_take (i := 11) (v := .int .i64 (i : Nat)) rfl (by kernel_rfl) (by kernel_rfl) (by kernel_rfl) (fun _ _ _ h => h) (.inl ⟨rfl, fun W hW => by obtain ⟨v1, v2⟩ := hW; go_simp⟩) HS0.out ?_
                  simp only [List.getElem_toArray, List.getElem_cons_zero, List.getElem_cons_succ, Act.put, List.setIfInBounds_toArray, List.set_cons_zero, List.set_cons_succ]
                  refine wpAnyH_take (i := 12) (v := .slice (some ⟨mb, 0, none⟩) n n) rfl (by kernel_rfl) (by kernel_rfl) (by kernel_rfl) (fun _ _ _ h => h) (.inl ⟨rfl, fun W hW => by first | kernel_rfl | go_simp⟩) HS0.out ?_
                  simp only [List.getElem_toArray, List.getElem_cons_zero, List.getElem_cons_succ, Act.put, List.setIfInBounds_toArray, List.set_cons_zero, List.set_cons_succ]
                  refine wpAnyH_take (i := 13) (v := .pointer (some ⟨gb, 11, none⟩)) rfl (by kernel_rfl) (by kernel_rfl) (by kernel_rfl) (fun _ _ _ h => h) (.inl ⟨rfl, fun W hW => by obtain ⟨v1, v2⟩ := hW; first | kernel_rfl | go_simp⟩) HS0.out ?_
                  simp only [List.getElem_toArray, List.getElem_cons_zero, List.getElem_cons_succ, Act.put, List.setIfInBounds_toArray, List.set_cons_zero, List.set_cons_succ]
                  refine wpAnyH_take (i := 14) (v := .int .i64 (i : Nat)) rfl (by kernel_rfl) (by kernel_rfl) (by kernel_rfl) (fun _ _ _ h => h) (.inl ⟨rfl, fun W hW => by obtain ⟨v1, v2⟩ := hW; go_simp⟩) HS0.out ?_
                  simp only [List.getElem_toArray, List.getElem_cons_zero, List.getElem_cons_succ, Act.put, List.setIfInBounds_toArray, List.set_cons_zero, List.set_cons_succ]
                  refine wpAnyH_take (i := 15) (v := .pointer (some ⟨mb, i, none⟩)) rfl (by kernel_rfl) (by kernel_rfl) (by kernel_rfl) (fun _ _ _ h => h) (.inl ⟨rfl, fun W hW => by go_simp⟩) HS0.out ?_
                  simp only [List.getElem_toArray, List.getElem_cons_zero, List.getElem_cons_succ, Act.put, List.setIfInBounds_toArray, List.set_cons_zero, List.set_cons_succ]
                  refine wpAnyH_take (i := 16) (v := .int .u64 (nu : Nat)) rfl (by kernel_rfl) (by kernel_rfl) (by kernel_rfl) (fun _ _ _ h => h) (.inl ⟨rfl, fun W hW => by obtain ⟨v1, v2⟩ := hW; go_simp⟩) HS0.out ?_
                  simp only [List.getElem_toArray, List.getElem_cons_zero, List.getElem_cons_succ, Act.put, List.setIfInBounds_toArray, List.set_cons_zero, List.set_cons_succ]
                  refine wpAnyH_ready (rs := [8]) (by kernel_rfl) (by simp) ?_
                  refine AllReadyH.cons rfl (fun KC hKC => ?_) AllReadyH.nil
                  refine step_callW rfl 13 #[.pointer (some ⟨sb, 0, none⟩), .int .i64 (i : Nat), .int .u64 (nu : Nat)] (by kernel_rfl) HWN.out ?_
                  rintro e' w7 ⟨rfl, HS7, HHA⟩
                  refine ⟨_, rfl, hKC.out _ _ HS7.out fun _ => ?_⟩
                  clear hKC HWN
                  simp only [List.getElem_toArray, List.getElem_cons_zero, List.getElem_cons_succ, Act.put, List.setIfInBounds_toArray, List.set_cons_zero, List.set_cons_succ]
                  refine wpAnyH_ready (rs := [17]) (by kernel_rfl) (by simp) ?_
                  refine AllReadyH.cons rfl (fun KC hKC => ?_) AllReadyH.nil
                  refine step_callW rfl 14 #[.slice qa2 K2 qc2, .int .i64 (i : Nat), .int .u64 (nu : Nat)] (by kernel_rfl) HHA.out ?_
                  rintro e' w8 ⟨rfl, HS8, HD8⟩
                  refine ⟨_, rfl, hKC.out _ _ HS8.out fun _ => ?_⟩
                  clear hKC HHA
                  simp only [List.getElem_toArray, List.getElem_cons_zero, List.getElem_cons_succ, Act.put, List.setIfInBounds_toArray, List.set_cons_zero, List.set_cons_succ]
                  refine wpAnyH_take (i := 18) (v := .bool false) rfl (by kernel_rfl) (by kernel_rfl) (by kernel_rfl) (fun _ _ _ h => h) (.inl ⟨rfl, fun W hW => by first | kernel_rfl | go_simp⟩) HS8.out ?_
                  simp only [List.getElem_toArray, List.getElem_cons_zero, List.getElem_cons_succ, Act.put, List.setIfInBounds_toArray, List.set_cons_zero, List.set_cons_succ]
                  refine wpAnyH_done (by kernel_rfl) ?_ _
                  go_wp2_with fail
                  go_meet
                  case rel => go_light; exact ⟨rfl, HD8.out⟩
              case rest =>
              clear HS0 HWN
              obtain ⟨rfl, HDW⟩ := hcut
              generalize wc = wp at *
              have hd0 := HDW.out.later ((World.Since.refl _ _).drew)
              have HS0 : Hid ((fun W => W.cell? ⟨gb, 11, none⟩ = some (.int .i64 (i : Nat)) ∧ W.cell? ⟨mb, i, none⟩ = some (.int .u64 (nu : Nat))) wp.drew) := hd0.cells HIN.out.1
              have HWO : Hid (Calls Try.prog 15 #[.slice qa2 K2 qc2, .int .i64 (i : Nat), .int .u64 (nu : Nat)] wp.drew fun e w' => ∃ qa3 qc3 K3, e = .returned (.slice qa3 K3 qc3) ∧ Hid ((fun W => W.cell? ⟨gb, 11, none⟩ = some (.int .i64 (i : Nat)) ∧ W.cell? ⟨mb, i, none⟩ = some (.int .u64 (nu : Nat))) w') ∧ Hid (DV W0 nodes n own m c CF vb sb mb lim (holdM hs c) qa3 qc3 K3 T3 j (some ⟨b, 0, none⟩) cc M gb i nu w')) :=
                hd0.without.mono fun e w' ⟨qa3, qc3, K3, he, hv⟩ => ⟨qa3, qc3, K3, he, hv.out.cells HIN.out.1, hv⟩
              clear hd0 HDW
              go_upto_region 31 with fail
              refine wp_region_held_drew (S := (fun W => W.cell? ⟨gb, 11, none⟩ = some (.int .i64 (i : Nat)) ∧ W.cell? ⟨mb, i, none⟩ = some (.int .u64 (nu : Nat)))) (by kernel_rfl) HS0.out fun _ => ?_
              refine wpAnyH_take (i := 0) (v := .slice qa2 K2 qc2) rfl (by kernel_rfl) (by kernel_rfl) (by kernel_rfl) (fun _ _ _ h => h) (.inl ⟨rfl, fun W hW => by first | kernel_rfl | go_simp⟩) HS0.out ?_
              simp only [List.getElem_toArray, List.getElem_cons_zero, Act.put, List.setIfInBounds_toArray, List.set_cons_zero, List.set_cons_succ]
              refine wpAnyH_take (i := 1) (v := .pointer (some ⟨gb, 11, none⟩)) rfl (by kernel_rfl) (by kernel_rfl) (by kernel_rfl) (fun _ _ _ h => h) (.inl ⟨rfl, fun W hW => by obtain ⟨v1, v2⟩ := hW; first | kernel_rfl | go_simp⟩) HS0.out ?_
              simp only [List.getElem_toArray, List.getElem_cons_zero, List.getElem_cons_succ, Act.put, List.setIfInBounds_toArray, List.set_cons_zero, List.set_cons_succ]
              refine wpAnyH_take (i := 2) (v := .int .i64 (i : Nat)) rfl (by kernel_rfl) (by kernel_rfl) (by kernel_rfl) (fun _ _ _ h => h) (.inl ⟨rfl, fun W hW => by obtain ⟨v1, v2⟩ := hW; go_simp⟩) HS0.out ?_
              simp only [List.getElem_toArray, List.getElem_cons_zero, List.getElem_cons_succ, Act.put, List.setIfInBounds_toArray, List.set_cons_zero, List.set_cons_succ]
              refine wpAnyH_take (i := 3) (v := .slice (some ⟨mb, 0, none⟩) n n) rfl (by kernel_rfl) (by kernel_rfl) (by kernel_rfl) (fun _ _ _ h => h) (.inl ⟨rfl, fun W hW => by first | kernel_rfl | go_simp⟩) HS0.out ?_
              simp only [List.getElem_toArray, List.getElem_cons_zero, List.getElem_cons_succ, Act.put, List.setIfInBounds_toArray, List.set_cons_zero, List.set_cons_succ]
              refine wpAnyH_take (i := 4) (v := .pointer (some ⟨gb, 11, none⟩)) rfl (by kernel_rfl) (by kernel_rfl) (by kernel_rfl) (fun _ _ _ h => h) (.inl ⟨rfl, fun W hW => by obtain ⟨v1, v2⟩ := hW; first | kernel_rfl | go_simp⟩) HS0.out ?_
              simp only [List.getElem_toArray, List.getElem_cons_zero, List.getElem_cons_succ, Act.put, List.setIfInBounds_toArray, List.set_cons_zero, List.set_cons_succ]
              refine wpAnyH_take (i := 5) (v := .int .i64 (i : Nat)) rfl (by kernel_rfl) (by kernel_rfl) (by kernel_rfl) (fun _ _ _ h => h) (.inl ⟨rfl, fun W hW => by obtain ⟨v1, v2⟩ := hW; go_simp⟩) HS0.out ?_
              simp only [List.getElem_toArray, List.getElem_cons_zero, List.getElem_cons_succ, Act.put, List.setIfInBounds_toArray, List.set_cons_zero, List.set_cons_succ]
              refine wpAnyH_take (i := 6) (v := .pointer (some ⟨mb, i, none⟩)) rfl (by kernel_rfl) (by kernel_rfl) (by kernel_rfl) (fun _ _ _ h => h) (.inl ⟨rfl, fun W hW => by go_simp⟩) HS0.out ?_
              simp only [List.getElem_toArray, List.getElem_cons_zero, List.getElem_cons_succ, Act.put, List.setIfInBounds_toArray, List.set_cons_zero, List.set_cons_succ]
              refine wpAnyH_take (i := 7) (v := .int .u64 (nu : Nat)) rfl (by kernel_rfl) (by kernel_rfl) (by kernel_rfl) (fun _ _ _ h => h) (.inl ⟨rfl, fun W hW => by obtain ⟨v1, v2⟩ := hW; go_simp⟩) HS0.out ?_
              simp only [List.getElem_toArray, List.getElem_cons_zero, List.getElem_cons_succ, Act.put, List.setIfInBounds_toArray, List.set_cons_zero, List.set_cons_succ]
              refine wpAnyH_ready (rs := [8]) (by kernel_rfl) (by simp) ?_
              refine AllReadyH.cons rfl (fun KC hKC => ?_) AllReadyH.nil
              refine step_callW rfl 15 #[.slice qa2 K2 qc2, .int .i64 (i : Nat), .int .u64 (nu : Nat)] (by kernel_rfl) HWO.out ?_
              rintro e' w7 ⟨qa3, qc3, K3, rfl, HS7, HV⟩
              refine ⟨_, rfl, hKC.out _ _ HS7.out fun _ => ?_⟩
              clear hKC HWO
              simp only [List.getElem_toArray, List.getElem_cons_zero, List.getElem_cons_succ, Act.put, List.setIfInBounds_toArray, List.set_cons_zero, List.set_cons_succ]
              refine wpAnyH_take (i := 9) (v := .slice qa3 K3 qc3) rfl (by kernel_rfl) (by kernel_rfl) (by kernel_rfl) (fun _ _ _ h => h) (.inl ⟨rfl, fun W hW => by first | kernel_rfl | go_simp⟩) HS7.out ?_
              simp only [List.getElem_toArray, List.getElem_cons_zero, List.getElem_cons_succ, Act.put, List.setIfInBounds_toArray, List.set_cons_zero, List.set_cons_succ]
              refine wpAnyH_done (by kernel_rfl) ?_ _
              have HVL := hide (HV.out.look (.int .i64 (own : Nat)) (.slice none 0 0) (.slice none 0 0) (.slice none 0 0) (.slice none 0 0))
              clear HS0 HS7 HV
              go_wp2_with (go_at_call 9; refine HVL.out.mono ?_; rintro e w9 ⟨rfl, HDN⟩)
              go_roundg (M - (j + 1))
              case measure => go_light; exact hme
              case rel => go_light; exact ⟨j + 1, T3, lost3, K3, qa3, qc3, HJ.out, rfl, rfl, rfl, rfl, by simp, HC1.out, HDN.out⟩
            · have hth : t ≠ ho := by have := HB.out; simpa using this
              have HDN : Hid (∀ q, DY W0 nodes n own m c CF vb sb mb lim (holdM hs c) qa2 qc2 K2 T3 (j + 1) (some ⟨b, 0, none⟩) cc M (wc.drewN q)) := fun q => (HZ.out.miss (by rw [HHO.out]; exact hth)).later ⟨rfl, rfl, rfl, Nat.le_refl _, fun _ _ => rfl⟩
              obtain ⟨v1, v2, v3, v4, _⟩ := HCL.out wc HZ.out
              clear hth HZ
              go_upto_region 25 with fail
              go_quiet (fail)
              go_wp2_with fail
              go_roundg (M - (j + 1))
              case measure => go_light; exact hme
              case rel => go_light; exact ⟨j + 1, T3, lost3, K2, qa2, qc2, HJ.out, rfl, rfl, rfl, rfl, by simp, HC1.out, HDN.out _⟩
          · obtain rfl : j = M := by omega
            have z1 : ¬ (j : Int) < (j : Int) := by omega
            have HTN : Hid (DX W0 nodes n own m c CF vb sb mb lim (holdM hs c) qa2 qc2 K2 (T2 + 1) wr) := HX.out.2.done
            have hme := mX_lt HTL.out HX.out.1
            have hl2 : lost2 ≤ 200 := by have := HX.out.1; have := HLO.out; omega
            have hwt : IntKind.i64.wrap ((T2 : Int) + 1) = (T2 : Int) + 1 := by have := HX.out.1; have := HTL.out; have := HLB.out; rw [IntKind.wrap_i64]; omega
            clear HX hj hlt
            go_wp2_with fail
            go_roundg (mX lim lost2 (T2 + 1))
            case measure => go_light; exact hme
            case rel => go_light; exact ⟨T2 + 1, lost2, K2, qa2, qc2, hl2, rfl, rfl, rfl, by simp, HTN.out⟩
      · obtain rfl : K1 = 0 := by omega
        have HQ := hide HX.out.quiet
        clear hK0 hT hlo HX
        go_wp2_with (go_at_call 8; refine HQ.out.mono ?_; rintro e w9 ⟨a, cc, rfl, HSF⟩)
        go_ret
        exact ⟨rfl, HS0.out.trans (since_mono HSF.out HS0.out.size)⟩
    · obtain rfl : K1 = 0 := HX.out.over (by omega)
      have zT : ¬ (T : Int) ≤ (lim : Int) := by omega
      have HQ := hide HX.out.quiet
      clear hT hlo HX
      go_wp2_with (go_at_call 8; refine HQ.out.mono ?_; rintro e w9 ⟨a, cc, rfl, HSF⟩)
      go_ret
      exact ⟨rfl, HS0.out.trans (since_mono HSF.out HS0.out.size)⟩
end Go.Proofs.Ytflppkmicgglfaa

/- What the laws of settle without the document's answer are handed, read out of memory. -/
namespace Go.Proofs.Ytflppkmicgglfaa
open Go.ChangeShapes Go.WideShapes Go.ChangeAt Go.RowKit Go.Deep Go.Joins
set_option maxRecDepth 100000
set_option maxRecDepth 100000

theorem cellsI : Try.prog.cellsOf 3 = 1 := by kernel_rfl
theorem cellsIs : Try.prog.cellsOf 22 = 1 := by kernel_rfl
theorem bytesI : Try.prog.bytesOf 3 = 8 := by kernel_rfl
theorem reach_eq : reachBytes = 140737488351232 := rfl
theorem add_at (b o : Nat) (r : Nat) : (⟨b, o, none⟩ : Addr).add r = ⟨b, o + r, none⟩ := by simp [Addr.add]
theorem cells1_of {w : World} {a : Addr} {cs : List Value} (h : w.cells? 0 a 1 = some cs) : ∃ v0, cs = [v0] ∧ w.cell? (a.add 0) = some v0 := by
  obtain ⟨_, hl, hc⟩ := World.cells?_some h
  match cs, hl with
  | [v0], _ => exact ⟨v0, rfl, hc 0 (by decide)⟩
def Fits {H : Type} (t : TypeId) (d : DataW H) : Prop := ∀ n, n ∈ d.weights Try.prog t → n ≤ reachBytes
theorem fits_of_each {H : Type} {ts : List TypeId} {ds : List (DataW H)} (h : ∀ n, n ∈ DataW.weightsEach Try.prog ts ds → n ≤ reachBytes) {j : Nat} {t : TypeId} {d : DataW H} (ht : ts[j]? = some t) (hd : ds[j]? = some d) : Fits t d :=
  fun n hn => h n (DataW.weights_mem_each ht hd n hn)
theorem each_of_all {H : Type} {ts : List TypeId} {ds : List (DataW H)} (h : (DataW.weightsEach Try.prog ts ds).all (· ≤ reachBytes) = true) : ∀ n, n ∈ DataW.weightsEach Try.prog ts ds → n ≤ reachBytes :=
  fun n hn => of_decide_eq_true (List.all_eq_true.1 h n hn)
theorem cell_lt2 {W : World} {b o : Nat} {v : Value} (hc : W.cell? ⟨b, o, none⟩ = some v) : b < W.heap.size := by
  by_cases h : b < W.heap.size
  · exact h
  · have : W.heap[b]? = none := by simp; omega
    simp [World.cell?, this] at hc
theorem open_ints {H : Type} {enc : TypeId × Value → H} {W : World} {fuel : Nat} {v : Value} {y : DataW H × List MemPlace} (h : DataW.trod enc Try.prog W 0 (fun _ => true) true fuel 22 [v] = some y) (hf : Fits 22 y.1) :
    ∃ (a : Option Addr) (c : Nat) (l : List Int), v = .slice a l.length c ∧ IL W a l ∧ l.length ≤ 20000000000000 := by
  rcases open_slice Try.underlying22 h with ⟨hcs, _⟩ | ⟨a, len, cap, m, n, D, Pl, hcs, _, hl, _, hm, hyx, hel⟩
  · exact ⟨none, 0, [], by simpa using hcs, fun i d ho => by simp at ho, Nat.zero_le _⟩
  · simp only [if_true] at hm
    subst hm
    obtain ⟨b, o, sp⟩ := a
    rw [hyx] at hf
    have hcount : len ≤ 20000000000000 := by
      have := hf _ (by
        simp only [DataW.weights, Try.underlying22]
        exact List.mem_cons_self ..)
      simp only [List.length_map, List.length_range, bytesI, reach_eq] at this
      omega
    have hsp : 0 < len → sp = none := fun h0 => by
      obtain ⟨cs', hc, _⟩ := hel 0 (by omega)
      rw [cellsI] at hc
      obtain ⟨v0, rfl, h0⟩ := cells1_of hc
      simpa [Addr.add] using World.cell?_spot h0
    have hall : ∀ i, ∃ q : Int, i < len → W.cell? ⟨b, o + i, none⟩ = some (.int .i64 q) := fun i => by
      by_cases hi : i < len
      · obtain rfl := hsp (by omega)
        obtain ⟨cs', hc, ht⟩ := hel i (by omega)
        rw [cellsI, add_at] at hc
        obtain ⟨v0, rfl, h0⟩ := cells1_of hc
        obtain ⟨k0, e0, _, _⟩ := DataW.trod_int Try.underlying3 ht
        obtain rfl : v0 = .int .i64 k0 := by simpa using e0
        rw [add_at] at h0
        refine ⟨k0, fun _ => ?_⟩
        simpa using h0
      · exact ⟨0, fun h => absurd h hi⟩
    obtain ⟨Q, hQ⟩ := Classical.axiomOfChoice hall
    have hlen : ((List.range len).map Q).length = len := by simp
    refine ⟨some ⟨b, o, sp⟩, m, (List.range len).map Q, by rw [hlen]; simpa using hcs, fun i d hq => ?_, by rw [hlen]; exact hcount⟩
    have hi : i < len := by have := (List.getElem?_eq_some_iff.1 hq).1; rwa [hlen] at this
    rw [List.getElem?_map, List.getElem?_range hi] at hq
    have e : Q i = d := Option.some.inj hq
    obtain rfl := hsp (by omega)
    have := hQ i hi
    rw [e] at this
    exact ⟨b, o, rfl, this, cell_lt2 this⟩
end Go.Proofs.Ytflppkmicgglfaa
