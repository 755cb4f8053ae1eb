/- Own texts, joined: ST23, ST20, STF. -/
import Derived.Test.YtflppkmicgglfaaM6
import Derived.BigQuiet
import Derived.Test.YtflppkmicgglfaaRows
import Derived.ProofKit
import Derived.OpenShut
import Derived.SizedLaws
import Derived.Lib.SmallJoins
import Derived.Deep.Matrix
import Derived.Deep.Slices

/- Package settle: the law of what is sent: one message heard. -/
namespace Go.Proofs.Ytflppkmicgglfaa
open Go.RowKit
set_option maxRecDepth 100000
set_option maxRecDepth 100000
/-- A settle's cells. -/
def stA (own i : Nat) (x : Int) (e : Ent) : Array Value := #[.int .i64 8, .int .i64 0, .int .i64 x, .int .i64 (own : Nat), .int .u64 0, .int .u64 0, .int .u64 0, .int .u64 0, .int .i64 0, .int .u64 0, .slice none 0 0, .int .i64 (i : Nat), .int .u64 (e.nu : Nat), .string (strL e.na), .string (strL []), .int .u64 (e.am : Nat), .int .u64 0, .int .u64 0, .int .i64 0, .int .i64 0, .int .i64 0, .int .i64 0]
theorem stA_all (own i : Nat) (x : Int) (e : Ent) : (stA own i x e).all (·.oneCell') = true := by kernel_rfl
section
variable {w0 : World} {nodes n own m c : Nat} {CF : Array Value} {vb sb lb tb : Nat} {sr : Nat → Nat} {W : World} {qa a : Option Addr} {K qc cc M : Nat} {l : List Ent} {T j : Nat} {was : Int}
set_option maxHeartbeats 2000000 in
theorem MX.step (h : MX w0 nodes n own m c CF vb sb lb tb sr (.slice qa K qc) l T j was a cc M W) (hj : j < M) (hK : K = l.length) (h16 : K ≤ 16) (hCF : cfgA nodes n c m = CF) (hn : n ≤ 8) (hg : ∀ i : Nat, i < n → goodM i nodes c) (t1 : Nat) (ht1 : t1 = T + 1) :
    ∃ (b i k : Nat) (x : Int) (nu am : Nat) (s : ByteArray) (MA EA : Array Value), a = some ⟨b, 0, none⟩ ∧ was < (i : Int) ∧ (i : Int) < (n : Int) ∧ (k : Int) < (c : Int) ∧ Hid (W.rangeAt b (j * 22) MA.toList) ∧ Hid ((Try.prog.info? 53).map (·.size) = some MA.toList.length) ∧
    ∃ W1 W2 gb, Hid (W.heap.size = gb) ∧ Hid (W.alloc (.cells #[.int .i64 0, .int .i64 0, .int .i64 0, .int .i64 0, .int .u64 0, .int .u64 0, .int .u64 0, .int .u64 0, .int .i64 0, .int .u64 0, .slice none 0 0, .int .i64 0, .int .u64 0, .string ⟨#[]⟩, .string ⟨#[]⟩, .int .u64 0, .int .u64 0, .int .u64 0, .int .i64 0, .int .i64 0, .int .i64 0, .int .i64 0] 53) = W1) ∧ Hid (W1.there gb 0 MA.size) ∧ Hid ((Try.prog.info? 53).map (·.size) = some MA.size) ∧ Hid (MA.all (·.oneCell') = true) ∧ Hid (W1.setCells gb 0 MA.toList = W2) ∧ W2.cell? ⟨gb, 11, none⟩ = some (.int .i64 (i : Nat)) ∧
    Hid (Calls Try.prog 10 #[.slice qa K qc, .int .i64 (i : Nat)] W2 fun e' w3 => e' = .returned (.tuple #[.agg EA, .bool true]) ∧
      ∃ W4 W5 eb, Hid (w3.heap.size = eb) ∧ Hid (w3.alloc (.cells #[.int .i64 0, .int .u64 0, .string ⟨#[]⟩, .int .u64 0] 55) = W4) ∧ Hid (W4.there eb 0 EA.size) ∧ Hid ((Try.prog.info? 55).map (·.size) = some EA.size) ∧ Hid (EA.all (·.oneCell') = true) ∧ Hid (W4.setCells eb 0 EA.toList = W5) ∧ W5.cell? ⟨gb, 11, none⟩ = some (.int .i64 (i : Nat)) ∧ W5.cell? ⟨gb, 2, none⟩ = some (.int .i64 x) ∧ Hid (W5.rangeAt vb 0 CF.toList) ∧
      Hid (Calls Try.prog 11 #[.agg CF, .int .i64 (i : Nat), .int .i64 x] W5 fun e' w6 => e' = .returned (.int .i64 (k : Nat)) ∧
        (w6.cell? ⟨gb, 11, none⟩ = some (.int .i64 (i : Nat)) ∧ w6.cell? ⟨gb, 12, none⟩ = some (.int .u64 (nu : Nat)) ∧ w6.cell? ⟨gb, 13, none⟩ = some (.string s) ∧ w6.cell? ⟨gb, 15, none⟩ = some (.int .u64 (am : Nat)) ∧ w6.cell? ⟨gb, 3, none⟩ = some (.int .i64 (own : Nat)) ∧ w6.cell? ⟨eb, 1, none⟩ = some (.int .u64 (nu : Nat)) ∧ w6.cell? ⟨eb, 2, none⟩ = some (.string s) ∧ w6.cell? ⟨eb, 3, none⟩ = some (.int .u64 (am : Nat))) ∧
        ∃ lv : Int, w6.cell? ⟨lb, i, none⟩ = some (.int .i64 lv) ∧ w6.frozen? ⟨lb, i, none⟩ = false ∧ ∃ W7 rb bv, Hid (w6.setCell ⟨lb, i, none⟩ (.int .i64 (t1 : Nat)) = W7) ∧ W7.cell? ⟨gb, 11, none⟩ = some (.int .i64 (i : Nat)) ∧ W7.cell? ⟨tb, i, none⟩ = some (.slice (some ⟨rb, 0, none⟩) c c) ∧ W7.cell? ⟨rb, k, none⟩ = some (.bool bv) ∧ W7.frozen? ⟨rb, k, none⟩ = false ∧
        ∃ W8, Hid (W7.setCell ⟨rb, k, none⟩ (.bool true) = W8) ∧ Hid (MX w0 nodes n own m c CF vb sb lb tb sr (.slice qa K qc) l T (j + 1) (i : Int) a cc M W8))) := by
  subst hK ht1
  obtain ⟨O, p, d, la, se, hM, hw, h1, h2, h3, h4, h5, h6⟩ := h
  obtain ⟨i, hi⟩ : ∃ i, (peersM d (fS own l) n)[j]? = some i := ⟨_, List.getElem?_eq_getElem (by omega)⟩
  obtain ⟨hin, hf⟩ := peers_lt hi
  obtain ⟨u, hu⟩ : ∃ u, fS own l i = some u := by
    unfold firesB at hf
    cases hx : fS own l i with
    | none => rw [hx] at hf; cases hf
    | some u => exact ⟨u, rfl⟩
  obtain ⟨ho, hfi, hpi⟩ := fS_first hu
  have htc := h6 i hin
  obtain ⟨b, ha, hr⟩ := msF_range h2 (by rw [List.length_map, hM]) j hj
  have hx : d.cp i (d.t i) = ((copN i nodes (d.t i) : Nat) : Int) := by rw [h4.hcp]
  have hms : mgL (((peersM d (fS own l) n).map (sendM d (fS own l))).getD j mg0) none 0 = (stA own i (copN i nodes (d.t i) : Nat) u.e).toList := by
    rw [List.getD_eq_getElem?_getD, List.getElem?_map, hi]
    show mgL (telG d.node d.shard ((fS own l i).elim ent0 (·.e)) (d.cp i (d.t i))) none 0 = _
    rw [hu, hx, h4.node, h4.shard]
    have hp : u.e.p = (i : Int) := hpi
    show mgL (telG 0 (own : Nat) u.e (copN i nodes (d.t i) : Nat)) none 0 = _
    have e : mgL (telG 0 (own : Nat) u.e (copN i nodes (d.t i) : Nat)) none 0 = [.int .i64 8, .int .i64 0, .int .i64 (copN i nodes (d.t i) : Nat), .int .i64 (own : Nat), .int .u64 0, .int .u64 0, .int .u64 0, .int .u64 0, .int .i64 0, .int .u64 0, .slice none 0 0, .int .i64 u.e.p, .int .u64 (u.e.nu : Nat), .string (strL u.e.na), .string (strL []), .int .u64 (u.e.am : Nat), .int .u64 0, .int .u64 0, .int .i64 0, .int .i64 0, .int .i64 0, .int .i64 0] := rfl
    rw [e, hp]
    rfl
  rw [hms] at hr
  obtain ⟨W1, W2, gb, b1, b2, b3, b4, b5, b6, b7, b8⟩ := msg_box W (stA own i (copN i nodes (d.t i) : Nat) u.e) rfl (stA_all _ _ _ _)
  have s2 := b7.out
  obtain ⟨g1, g2⟩ := b8.out
  have gat : ∀ (w' : World), W2.Since W2.heap.size w' → ∀ q v, (stA own i (copN i nodes (d.t i) : Nat) u.e).toList[q]? = some v → w'.cell? ⟨gb, q, none⟩ = some v := fun w' s q v hv => by
    have := g1 q v hv
    rw [Nat.zero_add] at this
    exact cell_later s this
  have hX2 := h1.later s2 hn
  have hL2 := h2.keep (x := 60) (Ch.since s2) (by decide)
  refine ⟨b, i, d.t i, ((copN i nodes (d.t i) : Nat) : Int), u.e.nu, u.e.am, strL u.e.na, stA own i ((copN i nodes (d.t i) : Nat) : Int) u.e, entA u.e, ha, by rw [hw]; exact wasP_lt peers_up hi, by omega, by omega, hr, infoM22, W1, W2, gb, b1, b2, b3, b4, b5, b6, gat _ (World.Since.refl _ _) 11 _ rfl, ?_⟩
  refine (firstOf_any (qc := qc) hX2.b.qu.q (by omega) (i : Nat)).mono fun e' w3 ⟨he, s3⟩ => ?_
  rw [show firstE l (i : Nat) = u.e by unfold firstE; rw [hfi]; rfl, hfi] at he
  obtain ⟨W4, W5, eb, e1, e2, e3, e4, e5, e6, e7, e8⟩ := ent_box w3 u.e
  have s5 := s3.trans (since_mono e7.out s3.size)
  have hX5 := hX2.later s5 hn
  have hL5 := hL2.keep (x := 60) (Ch.since s5) (by decide)
  refine ⟨he, W4, W5, eb, e1, e2, e3, e4, e5, e6, gat _ s5 11 _ rfl, gat _ s5 2 _ rfl, hX5.b.cf.1, ?_⟩
  rw [← hCF]
  refine (placeOf_any (m := m) (n := n) (hg i hin) ((copN i nodes (d.t i) : Nat) : Int)).mono fun e' w6 ⟨he6, s6⟩ => ?_
  rw [place_turn (hg i hin) htc] at he6
  have s6' := s6.out
  have hX6 := hX5.later s6' hn
  have hL6 := hL5.keep (x := 60) (Ch.since s6') (by decide)
  have s26 := s5.trans (since_mono s6' s5.size)
  have eat : ∀ q v, (entA u.e).toList[q]? = some v → w6.cell? ⟨eb, q, none⟩ = some v := fun q v hv => by
    have := e8.out.1 q v hv
    rw [Nat.zero_add] at this
    exact cell_later s6' this
  obtain ⟨hX7, k7⟩ := hX6.last i (T + 1)
  have hgl : gb ≠ lb := fun e => by
    have h8 := b1.out
    have h9 := h1.lar.1.lt
    omega
  have hg7 : (w6.setCell ⟨lb, i, none⟩ (.int .i64 (T + 1 : Nat))).cell? ⟨gb, 11, none⟩ = some (.int .i64 (i : Nat)) := by
    rw [World.cell?_of_block (a := ⟨gb, 11, none⟩) (Below.heap_setCell _ _ _ _ hgl)]
    exact gat _ s26 11 _ rfl
  have hL7 := hL6.keep k7 (by decide)
  obtain ⟨hX8, k8⟩ := hX7.sent i (d.t i) hin hn
  have hL8 := hL7.keep k8 (by omega)
  refine ⟨he6, ⟨gat _ s26 11 _ rfl, gat _ s26 12 _ rfl, gat _ s26 13 _ rfl, gat _ s26 15 _ rfl, gat _ s26 3 _ rfl, eat 1 _ rfl, eat 2 _ rfl, eat 3 _ rfl⟩, _, hX6.lar.1.cell hin, hX6.lar.1.frozen i, _, sr i, _, rfl, hg7, hX7.ser.1.cell hin, (hX7.ses i hin).1.cell htc, (hX7.ses i hin).1.frozen _, _, rfl, O, p, d, la, se, hM, (wasP_succ hi).symm, ?_, hL8, h3, h4, h5, h6⟩
  rw [laJ_succ hi, seJ_succ hi]
  rw [hCF]
  exact hX8
/-- Behind the last message. -/
theorem MX.done (h : MX w0 nodes n own m c CF vb sb lb tb sr (.slice qa K qc) l T M was a cc M W) (hm : 1 ≤ m) (hc : 1 ≤ c) : TX w0 nodes n own m c CF vb sb lb tb sr (.slice qa K qc) l (T + 1) W := by
  obtain ⟨O, p, d, la, se, hM, hw, h1, h2, h3, h4, h5, h6⟩ := h
  subst hM
  refine ⟨O, p, _, _, _, h1, h3.next hm hc h4.hm h4.hc, h5, fun i hi => ?_⟩
  show (if _ then (d.t i + 1) % d.c else d.t i) < c
  split
  · rw [h4.hc]; exact Nat.mod_lt _ (by omega)
  · exact h6 i hi
theorem TX.later {W' : World} (h : TX w0 nodes n own m c CF vb sb lb tb sr (.slice qa K qc) l T W) (s : W.Since W.heap.size W') (hn : n ≤ 8) : TX w0 nodes n own m c CF vb sb lb tb sr (.slice qa K qc) l T W' := by
  obtain ⟨O, p, d, la, se, h1, h2, h3, h4⟩ := h
  exact ⟨O, p, d, la, se, h1.later s hn, h2, h3, h4⟩
theorem TX.cell {q : Nat} {v : Value} (h : TX w0 nodes n own m c CF vb sb lb tb sr (.slice qa K qc) l T W) (hv : CF.toList[q]? = some v) : W.cell? ⟨vb, q, none⟩ = some v := by
  obtain ⟨O, p, d, la, se, h1, h2, h3, h4⟩ := h
  have := h1.b.cf.1 q v hv
  rw [Nat.zero_add] at this
  exact this
theorem MX.cell {q : Nat} {v : Value} (h : MX w0 nodes n own m c CF vb sb lb tb sr (.slice qa K qc) l T j was a cc M W) (hv : CF.toList[q]? = some v) : W.cell? ⟨vb, q, none⟩ = some v := by
  obtain ⟨O, p, d, la, se, hM, hw, h1, _⟩ := h
  have := h1.b.cf.1 q v hv
  rw [Nat.zero_add] at this
  exact this
/-- One peer, looked at behind a tick: it has been sent something, and not too long ago. -/
theorem TX.peer (h : TX w0 nodes n own m c CF vb sb lb tb sr (.slice qa K qc) l (T + 1) W) (i : Nat) (hi : i < n) (hK : K = l.length) (h16 : K ≤ 16) (hlq : ∀ e ∈ l, ∃ i : Nat, i < n ∧ i ≠ own ∧ e.p = (i : Int)) :
    Calls Try.prog 10 #[.slice qa K qc, .int .i64 (i : Nat)] W fun e' w3 => ∃ (EA : Array Value) (th : Bool) (la : Nat), e' = .returned (.tuple #[.agg EA, .bool th]) ∧ 
      ∃ W4 W5 eb, Hid (w3.heap.size = eb) ∧ Hid (w3.alloc (.cells #[.int .i64 0, .int .u64 0, .string ⟨#[]⟩, .int .u64 0] 55) = W4) ∧ Hid (W4.there eb 0 EA.size) ∧ Hid ((Try.prog.info? 55).map (·.size) = some EA.size) ∧ Hid (EA.all (·.oneCell') = true) ∧ Hid (W4.setCells eb 0 EA.toList = W5) ∧ W5.cell? ⟨lb, i, none⟩ = some (.int .i64 (la : Nat)) ∧ Hid (th = true → 1 ≤ la ∧ la ≤ T + 1 ∧ T + 1 < la + m) ∧ Hid (W.Since W.heap.size W5) := by
  subst hK
  obtain ⟨O, p, d, la, se, h1, h2, h3, h4⟩ := h
  refine (firstOf_any (qc := qc) h1.b.qu.q (by omega) (i : Nat)).mono fun e' w3 ⟨he, s3⟩ => ?_
  obtain ⟨W4, W5, eb, e1, e2, e3, e4, e5, e6, e7, e8⟩ := ent_box w3 (firstE l (i : Nat))
  have s5 := s3.trans (since_mono e7.out s3.size)
  refine ⟨_, _, la i, he, W4, W5, eb, e1, e2, e3, e4, e5, e6, cell_later s5 (h1.lar.1.cell hi), fun hth => ?_, s5⟩
  have hne : i ≠ own := fun e => by
    obtain ⟨x, hx⟩ := Option.isSome_iff_exists.1 hth
    have h5 := List.mem_of_find?_eq_some hx
    have h6 := List.find?_some hx
    obtain ⟨k, _, hk2, hk3⟩ := hlq x h5
    simp at h6
    omega
  cases hf : fS own l i with
  | none => rw [fS_none hne hf] at hth; cases hth
  | some u =>
    obtain ⟨s, hp, _⟩ := h2.there i u hi hf
    exact hp.soon
/-- In the end: just those copies have been sent something whose peers have something coming. -/
theorem TX.fin (h : TX w0 nodes n own m c CF vb sb lb tb sr (.slice qa K qc) l (c * m) W) (i : Nat) (hi : i < n) (hK : K = l.length) (h16 : K ≤ 16) (hm : 1 ≤ m) (hc : 1 ≤ c) (hlq : ∀ e ∈ l, ∃ i : Nat, i < n ∧ i ≠ own ∧ e.p = (i : Int)) :
    Calls Try.prog 10 #[.slice qa K qc, .int .i64 (i : Nat)] W fun e' w3 => ∃ (EA : Array Value) (th : Bool), e' = .returned (.tuple #[.agg EA, .bool th]) ∧ 
      ∃ W4 W5 eb, Hid (w3.heap.size = eb) ∧ Hid (w3.alloc (.cells #[.int .i64 0, .int .u64 0, .string ⟨#[]⟩, .int .u64 0] 55) = W4) ∧ Hid (W4.there eb 0 EA.size) ∧ Hid ((Try.prog.info? 55).map (·.size) = some EA.size) ∧ Hid (EA.all (·.oneCell') = true) ∧ Hid (W4.setCells eb 0 EA.toList = W5) ∧ Hid (W.Since W.heap.size W5) ∧ ∃ rb, W5.cell? ⟨tb, i, none⟩ = some (.slice (some ⟨rb, 0, none⟩) c c) ∧ Hid (∀ k, k < c → W5.cell? ⟨rb, k, none⟩ = some (.bool th)) := by
  subst hK
  obtain ⟨O, p, d, la, se, h1, h2, h3, h4⟩ := h
  refine (firstOf_any (qc := qc) h1.b.qu.q (by omega) (i : Nat)).mono fun e' w3 ⟨he, s3⟩ => ?_
  obtain ⟨W4, W5, eb, e1, e2, e3, e4, e5, e6, e7, e8⟩ := ent_box w3 (firstE l (i : Nat))
  have s5 := s3.trans (since_mono e7.out s3.size)
  refine ⟨_, _, he, W4, W5, eb, e1, e2, e3, e4, e5, e6, s5, sr i, cell_later s5 (h1.ser.1.cell hi), fun k hk => ?_⟩
  rw [cell_later s5 ((h1.ses i hi).1.cell hk)]
  congr 2
  cases hf : fS own l i with
  | none =>
    rw [h2.none i hi hf k hk]
    by_cases ho : i = own
    · have : firstM l (i : Nat) = none := by
        unfold firstM
        rw [List.find?_eq_none]
        intro x hx
        obtain ⟨q, _, hk2, hk3⟩ := hlq x hx
        simp; omega
      rw [this]; rfl
    · rw [fS_none ho hf]; rfl
  | some u =>
    obtain ⟨s, hp, hs⟩ := h2.there i u hi hf
    rw [hs k hk, (fS_first hf).2.1]
    have := hp.all hm hc
    exact decide_eq_true (by omega)
theorem TX.since (h : TX w0 nodes n own m c CF vb sb lb tb sr (.slice qa K qc) l T W) : w0.Since w0.heap.size W := by
  obtain ⟨O, p, d, la, se, h1, _⟩ := h
  exact h1.b.since
theorem SY.tx {O : Nat → Nat} {p : Sp} (h : SY w0 nodes n own m c CF vb sb lb tb sr n O W p (lookM (newS 0 own nodes n c m) l) (.slice qa K qc) l) (hm : 1 ≤ m) (hc : 1 ≤ c) : TX w0 nodes n own m c CF vb sb lb tb sr (.slice qa K qc) l 0 W := by
  have hx := h.done
  obtain ⟨k, k2⟩ := (Fx.new nodes n own m c).look l
  rw [fS_sh k.hown] at k2
  have hl := lkN_st (newS 0 own nodes n c m) l n
  have eL : ∀ i, (lookM (newS 0 own nodes n c m) l).l i ≤ 1 := fun i => by
    show (lkN (newS 0 own nodes n c m) l n).l i ≤ 1
    rw [hl]
    show (if _ then 0 else 0) ≤ 1
    split <;> omega
  have eG : ∀ i, (lookM (newS 0 own nodes n c m) l).g i = 1 := fun i => by
    show (lkN (newS 0 own nodes n c m) l n).g i = 1
    rw [hl]
    show (if _ then 1 else 1) = 1
    split <;> rfl
  have eT : ∀ i, (lookM (newS 0 own nodes n c m) l).t i = 0 := fun i => by
    show (lkN (newS 0 own nodes n c m) l n).t i = 0
    rw [hl]
    rfl
  refine ⟨O, p, _, _, _, hx, ⟨fun i u hi hu => ⟨0, ?_, fun k hk => (decide_eq_false (Nat.not_lt_zero _)).symm⟩, fun _ _ _ _ _ => rfl⟩, k2, fun i hi => by rw [eT]; omega⟩
  rw [eG, eT]
  exact ⟨Nat.le_refl _, hm, (Nat.zero_mod _).symm, .inl ⟨rfl, rfl, eL i, rfl⟩⟩
end
end Go.Proofs.Ytflppkmicgglfaa

/- SettleSends: the walk. -/
namespace Go.Proofs.Ytflppkmicgglfaa
open Go.RowKit
set_option maxRecDepth 100000
set_option maxRecDepth 100000
set_option maxHeartbeats 16000000 in
theorem sends_any {w : World} (a0 a1 a2 a3 a4 : Int) {ma : Option Addr} {mc : Nat} {ms : List Int} (hM : IL w ma ms) (hm : ms.length ≤ 20000000000000) (v6 v7 : Value) :
    Calls Try.prog 3 #[.agg #[.int .i64 a0, .int .i64 a1, .int .i64 a2, .int .i64 a3, .int .i64 a4, .slice ma ms.length mc, v6, v7]] w fun e w' => e = .returned (.bool true) ∧ w.Since w.heap.size w' := by
  obtain ⟨W0, HW0⟩ : ∃ W, Hid (w.alloc (.cells #[.int .i64 a0, .int .i64 a1, .int .i64 a2, .int .i64 a3, .int .i64 a4, .slice ma ms.length mc, v6, v7] 24) = W) := ⟨_, rfl⟩
  have s0 : w.Since w.heap.size W0 := by rw [← HW0.out]; exact (World.Since.refl _ _).alloc (Nat.le_refl _) _
  have HST := hide (start_any s0 a0 a1 a2 a3 a4 (hM.since s0) (mc := mc) hm v6 v7)
  obtain ⟨pb, HPB⟩ : ∃ x, Hid (w.heap.size = x) := ⟨_, rfl⟩
  obtain ⟨ML, HML⟩ : ∃ x, Hid (ms.length = x) := ⟨_, rfl⟩
  have HRG : Hid (W0.rangeAt pb 0 [.int .i64 a0, .int .i64 a1, .int .i64 a2, .int .i64 a3, .int .i64 a4, .slice ma ML mc, v6, v7]) := by
    rw [← HW0.out, ← HPB.out, ← HML.out]
    intro j v hj
    rw [Nat.zero_add]
    refine (World.cell?_alloc_at (w := w) _ _ _ j rfl).trans ?_
    rw [← Array.getElem?_toList]
    exact hj
  have HIL : Hid ((Try.prog.info? 24).map (·.size) = some [Value.int .i64 a0, .int .i64 a1, .int .i64 a2, .int .i64 a3, .int .i64 a4, .slice ma ML mc, v6, v7].length) := by show _ = _; kernel_rfl
  rw [HML.out] at HW0 HST
  clear hM hm s0
  go_enter Try.func3, Try.ntmps3
  go_upto_region 1 with fail
  rw [HML.out, HW0.out, HPB.out]
  clear HW0
  go_upto_region 2 with (first
    | (refine wpList_load_mid rfl 24 _ rfl pb 0 rfl _ _ HRG.out Try.underlying24 rfl HIL.out ?_)
    | (go_at_call 5; refine HST.out.mono ?_; rintro e w2 ⟨nodes, n, c, m, own, qa, qc, K, CF, rfl, vb, W3, W4, HVB, HW3, HT, HI, HO, HW4, HCR, HCI, HNW⟩)
    | (rw [HW3.out, HVB.out]; clear HW3)
    | (refine wpList_store_mid rfl 27 _ _ rfl vb 0 CF rfl rfl HT.out HI.out HO.out ?_; rw [HW4.out]))
  clear HRG HIL HT HI HO HW4 HST
  go_upto_region 5 with (first
    | (refine wpList_load_mid rfl 27 _ rfl vb 0 rfl CF.toList _ HCR.out Try.underlying27 rfl HCI.out ?_)
    | (go_at_call 6; refine HNW.out.mono ?_; rintro e w5 ⟨sb, rfl, HWA⟩)
    | (go_at_call 7; refine HWA.out.mono ?_; rintro e w6 ⟨rfl, HSE⟩; have HTK : Hid (Calls Try.prog 8 #[.pointer (some ⟨sb, 0, none⟩)] w6 fun e w' => e = .returned (.slice none 0 0) ∧ w6 = w') := (by
        obtain ⟨_, _, _, _, O, p, l, nx, _, _, hSB, _⟩ := HSE.out
        rw [← hSB.psb]
        exact tick_none hSB.s rfl))
    | (go_at_call 8; refine HTK.out.mono ?_; rintro e w7 ⟨rfl, rfl⟩))
  clear HNW HWA HTK
  obtain ⟨hCF, hb, hg, ho, O0, p0, l, nx, hK, h16, hSB0, hlq⟩ := HSE.out
  have HLK : Hid (Calls Try.prog 9 #[.pointer (some ⟨sb, 0, none⟩), .agg #[.int .i64 (own : Nat), .slice none 0 0, .slice qa K qc, .slice none 0 0, .slice none 0 0, .slice none 0 0]] w6 fun e w' => e = .returned (.tuple #[]) ∧ w'.cell? ⟨vb, 1, none⟩ = some (.int .i64 (n : Nat)) ∧ ∃ lb W8 tb W9, Hid (w'.heap.size = lb) ∧ Hid (w'.alloc (.cells (madeCells #[.int .i64 0] n) 3) = W8) ∧ W8.cell? ⟨vb, 1, none⟩ = some (.int .i64 (n : Nat)) ∧ Hid (W8.heap.size = tb) ∧ Hid (W8.alloc (.cells (madeCells #[.slice none 0 0] n) 42) = W9) ∧ Hid (∃ O p, SY w nodes n own m c CF vb sb lb tb (fun _ => 0) 0 O W9 p (lookM (newS 0 own nodes n c m) l) (.slice qa K qc) l)) := by
    subst hK
    refine (hSB0.look hSB0.qu.q (by omega) _ _ _ _ _).mono fun e w' ⟨he, hh⟩ => ?_
    obtain ⟨O', p', h1, _⟩ := hh.out
    have s8 : w'.Since w'.heap.size (w'.alloc (.cells (madeCells #[.int .i64 0] n) 3)) := (World.Since.refl _ _).alloc (Nat.le_refl _) _
    have cn : w'.cell? ⟨vb, 1, none⟩ = some (.int .i64 (n : Nat)) := by
      have := h1.cf.1 1 (.int .i64 (n : Nat)) (by rw [← hCF]; rfl)
      rw [Nat.zero_add] at this
      exact this
    obtain ⟨O2, h2⟩ := SY.start h1 rfl rfl rfl rfl
    exact ⟨he, cn, _, _, _, _, rfl, rfl, cell_later s8 cn, rfl, rfl, O2, p', h2⟩
  have HN8 : Hid (1 ≤ n ∧ n ≤ 8 ∧ 1 ≤ c ∧ c ≤ 7 ∧ 1 ≤ m ∧ m ≤ 64 ∧ 1 ≤ nodes ∧ nodes ≤ 9 ∧ own < n) := ⟨hb.2.2.1, hb.2.2.2.1, hb.2.2.2.2.1, hb.2.2.2.2.2.1, hb.2.2.2.2.2.2.1, hb.2.2.2.2.2.2.2, hb.1, hb.2.1, ho⟩
  have HG := hide hg
  have HCF := hide hCF
  have HK := hide hK
  have HK16 := hide h16
  have HLQ := hide hlq
  clear hSB0 hK h16 hlq hCF hg hb ho HSE
  go_upto_region 6 with (go_at_call 9; refine HLK.out.mono ?_; rintro e w8 ⟨rfl, cn, lb, W8, tb, W9, HLB, HW8, cn8, HTB, HW9, HY⟩)
  have hmk1 := run_make_row' (P := Try.prog) 22 3 (.int .i64 0) 8 Try.underlying22 infoI1 rfl .i64 .i64 n (by have := HN8.out; omega) (by have := HN8.out; omega)
  have hmk2 := run_make_row' (P := Try.prog) 41 42 (.slice none 0 0) 24 Try.underlying41 infoBS rfl .i64 .i64 n (by have := HN8.out; omega) (by have := HN8.out; omega)
  go_upto_region 7 with fail
  rw [HW8.out, HLB.out]
  go_upto_region 8 with fail
  rw [HW9.out, HTB.out]
  clear HW8 HLB HW9 HTB cn cn8 hmk1 hmk2 HLK
  obtain ⟨D, HD⟩ : ∃ D, Hid (lookM (newS 0 own nodes n c m) l = D) := ⟨_, rfl⟩
  rw [HD.out] at HY
  have HL0 : Hid (∃ sr O p, SY w nodes n own m c CF vb sb lb tb sr 0 O W9 p D (.slice qa K qc) l) := ⟨_, HY.out⟩
  clear HY
  go_wp2_with fail
  go_loopg [9] n (fun g s9 wx => ∃ i : Nat, i ≤ n ∧ g = n - i ∧ s9 = .int .i64 (i : Nat) ∧ Hid (∃ sr O p, SY w nodes n own m c CF vb sb lb tb sr i O wx p D (.slice qa K qc) l))
  case atStart => exact ⟨0, Nat.zero_le _, rfl, rfl, HL0⟩
  case round =>
    clear HL0
    obtain ⟨i, hi, rfl, rfl, HX⟩ := hrel
    have cn : wr.cell? ⟨vb, 1, none⟩ = some (.int .i64 (n : Nat)) := by
      obtain ⟨_, _, _, h⟩ := HX.out
      have := h.b.cf.1 1 (.int .i64 (n : Nat)) (by rw [← HCF.out]; rfl)
      rw [Nat.zero_add] at this
      exact this
    have cc : wr.cell? ⟨vb, 2, none⟩ = some (.int .i64 (c : Nat)) := by
      obtain ⟨_, _, _, h⟩ := HX.out
      have := h.b.cf.1 2 (.int .i64 (c : Nat)) (by rw [← HCF.out]; rfl)
      rw [Nat.zero_add] at this
      exact this
    by_cases hlt : i < n
    · have z1 : (i : Int) < (n : Int) := by omega
      have z0 : (0 : Int) ≤ (i : Int) := by omega
      have hwi : IntKind.i64.wrap ((i : Int) + 1) = (i : Int) + 1 := by have := HN8.out; rw [IntKind.wrap_i64]; omega
      have hme : n - (i + 1) < n - i := by omega
      have HI := hide hlt
      have hmk3 := run_make_row' (P := Try.prog) 42 4 (.bool false) 1 Try.underlying42 infoB1 rfl .i64 .i64 c (by have := HN8.out; omega) (by have := HN8.out; omega) wr
      obtain ⟨W7, rb, HRB, HW7, c7, f7, HXN⟩ : ∃ W7 rb, Hid (wr.heap.size = rb) ∧ Hid (wr.alloc (.cells (madeCells #[.bool false] c) 4) = W7) ∧ W7.cell? ⟨tb, i, none⟩ = some (.slice none 0 0) ∧ W7.frozen? ⟨tb, i, none⟩ = false ∧ Hid (∃ sr O p, SY w nodes n own m c CF vb sb lb tb sr (i + 1) O (W7.setCell ⟨tb, i, none⟩ (.slice (some ⟨rb, 0, none⟩) c c)) p D (.slice qa K qc) l) := by
        obtain ⟨sr, O, p, h⟩ := HX.out
        obtain ⟨⟨h1, h2⟩, O', h3⟩ := h.step hlt HN8.out.2.1 rfl rfl
        exact ⟨_, _, rfl, rfl, h1, h2, _, O', p, h3⟩
      rw [HRB.out, HW7.out] at hmk3
      clear HX hi hlt
      go_wp2_with fail
      go_roundg (n - (i + 1))
      case measure => go_light; exact hme
      case rel => go_light; exact ⟨i + 1, HI.out, rfl, by simp, HXN.out⟩
    · obtain rfl : i = n := by omega
      have z1 : ¬ (i : Int) < (i : Int) := by omega
      obtain ⟨sr, HT0⟩ : ∃ sr, Hid (TX w nodes i own m c CF vb sb lb tb sr (.slice qa K qc) l 0 wr) := by
        obtain ⟨sr, O, p, h⟩ := HX.out
        rw [← HD.out] at h
        exact ⟨sr, h.tx HN8.out.2.2.2.2.1 HN8.out.2.2.1⟩
      clear HX hi hlt cc HD
      generalize wr = wrO at *
      generalize i = n at *
      obtain ⟨L, hL⟩ : ∃ L, c * m = L := ⟨_, rfl⟩
      have hL2 : L ≤ 448 := by rw [← hL]; exact Nat.mul_le_mul (HN8.out.2.2.2.1) (HN8.out.2.2.2.2.2.1)
      have hwL : IntKind.i64.wrap ((c : Int) * (m : Int)) = (L : Int) := by rw [← hL, ← Int.natCast_mul, IntKind.wrap_i64]; omega
      have HLE := hide hL
      have HL2 := hide hL2
      clear hL hL2
      go_wp2_with fail
      clear z1 cn
      go_loopg [10, 11, 12, 13, 14, 15, 16, 17, 18, 19, 20] L (fun g s10 s11 s12 s13 s14 s15 s16 s17 s18 s19 s20 wx => ∃ T t1 : Nat, T ≤ L ∧ t1 = T + 1 ∧ g = L - T ∧ s10 = .int .i64 (t1 : Nat) ∧ Hid (TX w nodes n own m c CF vb sb lb tb sr (.slice qa K qc) l T wx))
      case atStart => exact ⟨0, 1, Nat.zero_le _, rfl, rfl, rfl, HT0.out⟩
      case round =>
        clear HT0
        obtain ⟨T, t1, hT, ht1, rfl, rfl, HX⟩ := hrel
        have c2 : wr.cell? ⟨vb, 2, none⟩ = some (.int .i64 (c : Nat)) := HX.out.cell (by rw [← HCF.out]; rfl)
        have c5 : wr.cell? ⟨vb, 5, none⟩ = some (.int .i64 (m : Nat)) := HX.out.cell (by rw [← HCF.out]; rfl)
        by_cases hlt : T < L
        · have z1 : (t1 : Int) ≤ (L : Int) := by omega
          have hwi : IntKind.i64.wrap ((t1 : Int) + 1) = (t1 : Int) + 1 := by have := HL2.out; rw [IntKind.wrap_i64]; omega
          have hme : L - (T + 1) < L - T := by omega
          have HTL := hide hlt
          have HT1E := hide ht1
          have HTK : Hid (Calls Try.prog 8 #[.pointer (some ⟨sb, 0, none⟩)] wr fun e w' => ∃ a cc M, e = .returned (.slice a M cc) ∧ Hid (MX w nodes n own m c CF vb sb lb tb sr (.slice qa K qc) l T 0 (-1) a cc M w')) := HX.out.tick
          clear HX hT hlt ht1
          go_upto_if 82 with (go_at_call 8; refine HTK.out.mono ?_; rintro e w9 ⟨a, cc, M, rfl, HM0⟩)
          have HM8 : Hid (M ≤ 8) := by
            obtain ⟨_, _, d, _, _, h, _⟩ := HM0.out
            have h2 : (peersM d (fS own l) n).length ≤ (List.range n).length := List.length_filter_le _ _
            rw [List.length_range] at h2
            have := HN8.out.2.1
            show M ≤ 8
            omega
          clear HTK c2 c5
          go_cut [] from 69 to 196 (fun wx => Hid (MX w nodes n own m c CF vb sb lb tb sr (.slice qa K qc) l T 0 (-1) a cc M wx))
          case first =>
            by_cases h3 : t1 % 7 = 3
            · have q3 : ((t1 : Int) % 7 == 3) = true := by simp; omega
              have HLKM : Hid (Calls Try.prog 9 #[.pointer (some ⟨sb, 0, none⟩), .agg #[.int .i64 (own : Nat), .slice none 0 0, .slice qa K qc, .slice none 0 0, .slice none 0 0, .slice none 0 0]] w9 fun e w' => e = .returned (.tuple #[]) ∧ Hid (MX w nodes n own m c CF vb sb lb tb sr (.slice qa K qc) l T 0 (-1) a cc M w')) := HM0.out.look HK.out HK16.out _ _ _ _ _
              clear HM0
              go_wp2_with (go_at_call 9; refine HLKM.out.mono ?_; rintro e w10 ⟨rfl, HM0⟩)
              go_meet
              case rel => go_light; exact HM0
            · have q3 : ((t1 : Int) % 7 == 3) = false := by simp; omega
              go_wp2_with fail
              go_meet
              case rel => go_light; exact HM0
          case rest =>
            clear HM0
            have HM0 := hcut
            clear hcut
            go_upto_region 19 with fail
            go_wp2_with fail
            go_loopg [12, 13, 14, 15, 16, 17] M (fun g s12 s13 s14 s15 s16 s17 wx => ∃ (j : Nat) (was : Int), j ≤ M ∧ g = M - j ∧ s12 = .int .i64 was ∧ s13 = .int .i64 (j : Nat) ∧ Hid (MX w nodes n own m c CF vb sb lb tb sr (.slice qa K qc) l T j was a cc M wx))
            case atStart => exact ⟨0, -1, Nat.zero_le _, rfl, rfl, rfl, HM0.out⟩
            case round =>
              clear HM0
              obtain ⟨j, was, hj, rfl, rfl, rfl, HX⟩ := hrel
              by_cases hlt : j < M
              · have z1 : (j : Int) < (M : Int) := by omega
                have z0 : (0 : Int) ≤ (j : Int) := by omega
                have hwi : IntKind.i64.wrap ((j : Int) + 1) = (j : Int) + 1 := by have := HM8.out; rw [IntKind.wrap_i64]; omega
                have hme : M - (j + 1) < M - j := by omega
                have HJ := hide hlt
                obtain ⟨b, i, k, x, nu, am, st, MA, EA, rfl, hwi2, zin, zkc, HR, HRL, W1, W2, gb, HGB, HW1, HT1, HI1, HO1, HW2, e11, HFO⟩ := HX.out.step hlt HK.out HK16.out HCF.out HN8.out.2.1 HG.out t1 HT1E.out
                have zi0 : (0 : Int) ≤ (i : Int) := by omega
                have zk0 : (0 : Int) ≤ (k : Int) := by omega
                have zle : ¬ (i : Int) ≤ was := by omega
                have zkn : ¬ (k : Int) < 0 := by omega
                clear HX hj hlt
                go_upto_region 23 with (first
                  | (refine wpList_load_mid rfl 53 _ rfl b (j * 22) rfl MA.toList _ HR.out Try.underlying53 rfl HRL.out ?_)
                  | (rw [HW1.out, HGB.out]; clear HW1)
                  | (refine wpList_store_mid rfl 53 _ _ rfl gb 0 MA rfl rfl HT1.out HI1.out HO1.out ?_; rw [HW2.out]))
                clear HR HRL HT1 HI1 HO1 HW2
                go_upto_region 24 with (first
                  | (go_at_call 10; refine HFO.out.mono ?_; rintro e w3 ⟨rfl, W4, W5, eb, HEB, HW4, HT4, HI4, HO4, HW5, e5a, e5b, HRC, HPO⟩)
                  | (rw [HW4.out, HEB.out]; clear HW4)
                  | (refine wpList_store_mid rfl 55 _ _ rfl eb 0 EA rfl rfl HT4.out HI4.out HO4.out ?_; rw [HW5.out]))
                clear HFO HT4 HI4 HO4 HW5 e11
                go_upto_region 25 with (first
                  | (refine wpList_load_mid rfl 27 _ rfl vb 0 rfl CF.toList _ HRC.out Try.underlying27 rfl HCI.out ?_)
                  | (go_at_call 11; refine HPO.out.mono ?_; rintro e w6 ⟨rfl, ⟨d11, d12, d13, d15, d3, g1, g2, g3⟩, lv, l1, l2, W7, rb, bv, HW7, h11, ht, hb1, hb2, W8, HW8, HMN⟩))
                clear HPO HRC e5a e5b
                go_wp2_with (first | (rw [HW7.out]; clear HW7) | (rw [HW8.out]; clear HW8))
                go_roundg (M - (j + 1))
                case measure => go_light; exact hme
                case rel => go_light; exact ⟨j + 1, (i : Int), HJ.out, rfl, rfl, by simp, HMN.out⟩
              · obtain rfl : j = M := by omega
                have z1 : ¬ (j : Int) < (j : Int) := by omega
                have HTN : Hid (TX w nodes n own m c CF vb sb lb tb sr (.slice qa K qc) l (T + 1) wr) := HX.out.done HN8.out.2.2.2.2.1 HN8.out.2.2.1
                clear HX hj hlt
                generalize wr = wq at *
                generalize j = M at *
                go_wp2_with fail
                go_loopg [18, 19, 20] n (fun g s18 s19 s20 wx => ∃ i : Nat, i ≤ n ∧ g = n - i ∧ s18 = .int .i64 (i : Nat) ∧ Hid (TX w nodes n own m c CF vb sb lb tb sr (.slice qa K qc) l (T + 1) wx))
                case atStart => exact ⟨0, Nat.zero_le _, rfl, rfl, HTN.out⟩
                case round =>
                  clear HTN
                  obtain ⟨i, hi, rfl, rfl, HX⟩ := hrel
                  have cn : wr.cell? ⟨vb, 1, none⟩ = some (.int .i64 (n : Nat)) := HX.out.cell (by rw [← HCF.out]; rfl)
                  by_cases hlt : i < n
                  · have z1 : (i : Int) < (n : Int) := by omega
                    have z0 : (0 : Int) ≤ (i : Int) := by omega
                    have hwi : IntKind.i64.wrap ((i : Int) + 1) = (i : Int) + 1 := by have := HN8.out; rw [IntKind.wrap_i64]; omega
                    have hme : n - (i + 1) < n - i := by omega
                    have HJ := hide hlt
                    have HPE := hide (HX.out.peer i hlt HK.out HK16.out HLQ.out.1)
                    clear hlt hi
                    go_upto_region 34 with (first
                      | (go_at_call 10; refine HPE.out.mono ?_; rintro e w3 ⟨EA, th, la, rfl, W4, W5, eb, HEB, HW4, HT4, HI4, HO4, HW5, cl, HLA, HS5⟩)
                      | (rw [HW4.out, HEB.out]; clear HW4)
                      | (refine wpList_store_mid rfl 55 _ _ rfl eb 0 EA rfl rfl HT4.out HI4.out HO4.out ?_; rw [HW5.out]))
                    have HX5 := hide (HX.out.later HS5.out HN8.out.2.1)
                    have cm5 : W5.cell? ⟨vb, 5, none⟩ = some (.int .i64 (m : Nat)) := HX5.out.cell (by rw [← HCF.out]; rfl)
                    have HXQ : Hid (∀ q, TX w nodes n own m c CF vb sb lb tb sr (.slice qa K qc) l (T + 1) (W5.drewN q)) := fun q => HX5.out.later ⟨rfl, rfl, rfl, Nat.le_refl _, fun _ _ => rfl⟩ HN8.out.2.1
                    clear HX HPE HT4 HI4 HO4 HW5 cn HX5
                    cases th
                    · go_quiet (fail)
                      go_wp2_with fail
                      go_roundg (n - (i + 1))
                      case measure => go_light; exact hme
                      case rel => go_light; exact ⟨i + 1, HJ.out, rfl, by simp, HXQ.out _⟩
                    · obtain ⟨l1, l2, l3⟩ := HLA.out rfl
                      have q1 : ((la : Int) == 0) = false := by simp; omega
                      have ht1 := HT1E.out
                      have hl2 := HL2.out
                      have htl := HTL.out
                      have hws : IntKind.i64.wrap ((t1 : Int) - (la : Int)) = (t1 : Int) - (la : Int) := by rw [IntKind.wrap_i64]; omega
                      have q2 : decide ((m : Int) ≤ (t1 : Int) - (la : Int)) = false := decide_eq_false (by omega)
                      clear l1 l2 l3 ht1 hl2 htl HLA
                      go_quiet (fail)
                      go_wp2_with fail
                      go_roundg (n - (i + 1))
                      case measure => go_light; exact hme
                      case rel => go_light; exact ⟨i + 1, HJ.out, rfl, by simp, HXQ.out _⟩
                  · obtain rfl : i = n := by omega
                    have z1 : ¬ (i : Int) < (i : Int) := by omega
                    clear hi hlt
                    go_wp2_with fail
                    go_roundg (L - (T + 1))
                    case measure => go_light; exact hme
                    case rel => go_light; exact ⟨T + 1, t1 + 1, HTL.out, by rw [HT1E.out], rfl, by simp, HX.out⟩
        · obtain rfl : T = L := by omega
          have z1 : ¬ (t1 : Int) ≤ (T : Int) := by omega
          have HTF : Hid (TX w nodes n own m c CF vb sb lb tb sr (.slice qa K qc) l (c * m) wr) := by rw [HLE.out]; exact HX.out
          clear HX hT hlt ht1
          generalize wr = wq at *
          generalize T = L at *
          go_wp2_with fail
          clear z1 c2 c5 hwL
          go_loopg [21, 22, 23, 24] n (fun g s21 s22 s23 s24 wx => ∃ i : Nat, i ≤ n ∧ g = n - i ∧ s21 = .int .i64 (i : Nat) ∧ Hid (TX w nodes n own m c CF vb sb lb tb sr (.slice qa K qc) l (c * m) wx))
          case atStart => exact ⟨0, Nat.zero_le _, rfl, rfl, HTF.out⟩
          case round =>
            clear HTF
            obtain ⟨i, hi, rfl, rfl, HX⟩ := hrel
            have cn : wr.cell? ⟨vb, 1, none⟩ = some (.int .i64 (n : Nat)) := HX.out.cell (by rw [← HCF.out]; rfl)
            by_cases hlt : i < n
            · have z1 : (i : Int) < (n : Int) := by omega
              have z0 : (0 : Int) ≤ (i : Int) := by omega
              have hwi : IntKind.i64.wrap ((i : Int) + 1) = (i : Int) + 1 := by have := HN8.out; rw [IntKind.wrap_i64]; omega
              have hme : n - (i + 1) < n - i := by omega
              have HJ := hide hlt
              have HPE := hide (HX.out.fin i hlt HK.out HK16.out HN8.out.2.2.2.2.1 HN8.out.2.2.1 HLQ.out.1)
              clear hlt hi
              go_upto_region 40 with (first
                | (go_at_call 10; refine HPE.out.mono ?_; rintro e w3 ⟨EA, th, rfl, W4, W5, eb, HEB, HW4, HT4, HI4, HO4, HW5, HS5, rb, ct, HTH⟩)
                | (rw [HW4.out, HEB.out]; clear HW4)
                | (refine wpList_store_mid rfl 55 _ _ rfl eb 0 EA rfl rfl HT4.out HI4.out HO4.out ?_; rw [HW5.out]))
              have HX5 := hide (HX.out.later HS5.out HN8.out.2.1)
              have c2 : W5.cell? ⟨vb, 2, none⟩ = some (.int .i64 (c : Nat)) := HX5.out.cell (by rw [← HCF.out]; rfl)
              clear HX HPE HT4 HI4 HO4 HW5 cn
              have q0 : (th != th) = false := by cases th <;> rfl
              go_wp2_with fail
              go_loopg [24] c (fun g s24 wx => ∃ k : Nat, k ≤ c ∧ g = c - k ∧ s24 = .int .i64 (k : Nat) ∧ Hid (W5 = wx))
              case atStart => exact ⟨0, Nat.zero_le _, rfl, rfl, rfl⟩
              case round =>
                obtain ⟨k, hk, rfl, rfl, HW⟩ := hrel
                obtain rfl := HW.out
                by_cases hlk : k < c
                · have y1 : (k : Int) < (c : Int) := by omega
                  have y0 : (0 : Int) ≤ (k : Int) := by omega
                  have hwk : IntKind.i64.wrap ((k : Int) + 1) = (k : Int) + 1 := by have := HN8.out; rw [IntKind.wrap_i64]; omega
                  have hmk : c - (k + 1) < c - k := by omega
                  have HJK := hide hlk
                  have ck := HTH.out k hlk
                  clear hk hlk
                  go_wp2_with fail
                  go_roundg (c - (k + 1))
                  case measure => go_light; exact hmk
                  case rel => go_light; exact ⟨k + 1, HJK.out, rfl, by simp, rfl⟩
                · obtain rfl : k = c := by omega
                  have y1 : ¬ (k : Int) < (k : Int) := by omega
                  clear hk hlk
                  go_wp2_with fail
                  go_roundg (n - (i + 1))
                  case measure => go_light; exact hme
                  case rel => go_light; exact ⟨i + 1, HJ.out, rfl, by simp, HX5.out⟩
            · obtain rfl : i = n := by omega
              have z1 : ¬ (i : Int) < (i : Int) := by omega
              clear hi hlt
              go_wp2_with fail
              go_ret
              exact ⟨rfl, HX.out.since⟩
end Go.Proofs.Ytflppkmicgglfaa

/- What the laws of settle without the document's answer are handed, read out of memory. -/
namespace Go.Proofs.Ytflppkmicgglfaa
open Go.ChangeShapes Go.WideShapes Go.ChangeAt Go.RowKit Go.Deep Go.Joins
set_option maxRecDepth 100000
set_option maxRecDepth 100000

theorem cellsI : Try.prog.cellsOf 3 = 1 := by kernel_rfl
theorem cellsIs : Try.prog.cellsOf 22 = 1 := by kernel_rfl
theorem bytesI : Try.prog.bytesOf 3 = 8 := by kernel_rfl
theorem reach_eq : reachBytes = 140737488351232 := rfl
theorem add_at (b o : Nat) (r : Nat) : (⟨b, o, none⟩ : Addr).add r = ⟨b, o + r, none⟩ := by simp [Addr.add]
theorem cells1_of {w : World} {a : Addr} {cs : List Value} (h : w.cells? 0 a 1 = some cs) : ∃ v0, cs = [v0] ∧ w.cell? (a.add 0) = some v0 := by
  obtain ⟨_, hl, hc⟩ := World.cells?_some h
  match cs, hl with
  | [v0], _ => exact ⟨v0, rfl, hc 0 (by decide)⟩
def Fits {H : Type} (t : TypeId) (d : DataW H) : Prop := ∀ n, n ∈ d.weights Try.prog t → n ≤ reachBytes
theorem fits_of_each {H : Type} {ts : List TypeId} {ds : List (DataW H)} (h : ∀ n, n ∈ DataW.weightsEach Try.prog ts ds → n ≤ reachBytes) {j : Nat} {t : TypeId} {d : DataW H} (ht : ts[j]? = some t) (hd : ds[j]? = some d) : Fits t d :=
  fun n hn => h n (DataW.weights_mem_each ht hd n hn)
theorem each_of_all {H : Type} {ts : List TypeId} {ds : List (DataW H)} (h : (DataW.weightsEach Try.prog ts ds).all (· ≤ reachBytes) = true) : ∀ n, n ∈ DataW.weightsEach Try.prog ts ds → n ≤ reachBytes :=
  fun n hn => of_decide_eq_true (List.all_eq_true.1 h n hn)
theorem cell_lt2 {W : World} {b o : Nat} {v : Value} (hc : W.cell? ⟨b, o, none⟩ = some v) : b < W.heap.size := by
  by_cases h : b < W.heap.size
  · exact h
  · have : W.heap[b]? = none := by simp; omega
    simp [World.cell?, this] at hc
theorem open_ints {H : Type} {enc : TypeId × Value → H} {W : World} {fuel : Nat} {v : Value} {y : DataW H × List MemPlace} (h : DataW.trod enc Try.prog W 0 (fun _ => true) true fuel 22 [v] = some y) (hf : Fits 22 y.1) :
    ∃ (a : Option Addr) (c : Nat) (l : List Int), v = .slice a l.length c ∧ IL W a l ∧ l.length ≤ 20000000000000 := by
  rcases open_slice Try.underlying22 h with ⟨hcs, _⟩ | ⟨a, len, cap, m, n, D, Pl, hcs, _, hl, _, hm, hyx, hel⟩
  · exact ⟨none, 0, [], by simpa using hcs, fun i d ho => by simp at ho, Nat.zero_le _⟩
  · simp only [if_true] at hm
    subst hm
    obtain ⟨b, o, sp⟩ := a
    rw [hyx] at hf
    have hcount : len ≤ 20000000000000 := by
      have := hf _ (by
        simp only [DataW.weights, Try.underlying22]
        exact List.mem_cons_self ..)
      simp only [List.length_map, List.length_range, bytesI, reach_eq] at this
      omega
    have hsp : 0 < len → sp = none := fun h0 => by
      obtain ⟨cs', hc, _⟩ := hel 0 (by omega)
      rw [cellsI] at hc
      obtain ⟨v0, rfl, h0⟩ := cells1_of hc
      simpa [Addr.add] using World.cell?_spot h0
    have hall : ∀ i, ∃ q : Int, i < len → W.cell? ⟨b, o + i, none⟩ = some (.int .i64 q) := fun i => by
      by_cases hi : i < len
      · obtain rfl := hsp (by omega)
        obtain ⟨cs', hc, ht⟩ := hel i (by omega)
        rw [cellsI, add_at] at hc
        obtain ⟨v0, rfl, h0⟩ := cells1_of hc
        obtain ⟨k0, e0, _, _⟩ := DataW.trod_int Try.underlying3 ht
        obtain rfl : v0 = .int .i64 k0 := by simpa using e0
        rw [add_at] at h0
        refine ⟨k0, fun _ => ?_⟩
        simpa using h0
      · exact ⟨0, fun h => absurd h hi⟩
    obtain ⟨Q, hQ⟩ := Classical.axiomOfChoice hall
    have hlen : ((List.range len).map Q).length = len := by simp
    refine ⟨some ⟨b, o, sp⟩, m, (List.range len).map Q, by rw [hlen]; simpa using hcs, fun i d hq => ?_, by rw [hlen]; exact hcount⟩
    have hi : i < len := by have := (List.getElem?_eq_some_iff.1 hq).1; rwa [hlen] at this
    rw [List.getElem?_map, List.getElem?_range hi] at hq
    have e : Q i = d := Option.some.inj hq
    obtain rfl := hsp (by omega)
    have := hQ i hi
    rw [e] at this
    exact ⟨b, o, rfl, this, cell_lt2 this⟩
end Go.Proofs.Ytflppkmicgglfaa
