/- CodeFresh: a Writer with its list, a Reader, the document's Reader, Late and the Book, each for itself in memory. -/
import Derived.Test.YtbmdnlomhnodeabDoorLate4
import Derived.Test.YtbmdnlomhnodeabDoorEyeN
import Derived.Test.YtbmdnlomhnodeabDoorWrites2
namespace Go.Proofs.YtbmdnlomhnodeabDoor
open Go.RowKit
set_option maxRecDepth 100000

/-- Objects apart from each other, all of the call's own. -/
structure Dj (w : World) (B : Nat) (P : Nat → Nat → Prop) : Prop where
  lt : ∀ i k, i < 5 → P i k → B ≤ k ∧ k < w.heap.size
  dj : ∀ i j k, i < 5 → j < 5 → i ≠ j → P i k → ¬ P j k
theorem Dj.step {w w' : World} {B : Nat} {P P' : Nat → Nat → Prop} (h : Dj w B P) {i : Nat} (hi : i < 5) {E Q : Nat → Prop} (hE : ∀ k, E k → ∀ j, j < 5 → j ≠ i → ¬ P j k) (hm : Mv (fun k => P i k ∨ E k) Q w w') (hQ : ∀ k, Q k → B ≤ k ∧ k < w'.heap.size) (hP : ∀ j, j < 5 → j ≠ i → P' j = P j) (hPi : P' i = Q) :
    Dj w' B P' ∧ ∀ j k, j < 5 → j ≠ i → P j k → w'.heap[k]? = w.heap[k]? := by
  have keep : ∀ j k, j < 5 → j ≠ i → P j k → w'.heap[k]? = w.heap[k]? := fun j k hj hji hp => hm.block k (h.lt j k hj hp).2 (fun hf => by
    rcases hf with hf | hf
    · exact h.dj j i k hj hi hji hp hf
    · exact hE k hf j hj hji hp)
  have far : ∀ j k, j < 5 → j ≠ i → P j k → ¬ Q k := fun j k hj hji hp hq => by
    rcases hm.foot k hq with hf | hf
    · rcases hf with hf | hf
      · exact h.dj j i k hj hi hji hp hf
      · exact hE k hf j hj hji hp
    · have := (h.lt j k hj hp).2
      omega
  refine ⟨⟨fun j k hj hp => ?_, fun a b k ha hb hab hp hq => ?_⟩, keep⟩
  · by_cases e : j = i
    · subst e; rw [hPi] at hp; exact hQ k hp
    · rw [hP j hj e] at hp
      have := h.lt j k hj hp
      have := hm.size
      omega
  · by_cases ea : a = i
    · subst ea
      have eb : b ≠ a := fun e => hab e.symm
      rw [hPi] at hp
      rw [hP b hb eb] at hq
      exact far b k hb eb hq hp
    · rw [hP a ha ea] at hp
      by_cases eb : b = i
      · subst eb
        rw [hPi] at hq
        exact far a k ha ea hp hq
      · rw [hP b hb eb] at hq
        exact h.dj a b k ha hb hab hp hq
theorem Dj.since {w w' : World} {B : Nat} {P : Nat → Nat → Prop} (h : Dj w B P) (hs : w.heap.size ≤ w'.heap.size) : Dj w' B P := ⟨fun i k hi hp => by have := h.lt i k hi hp; omega, h.dj⟩
def fam (F0 F1 F2 F3 F4 : Nat → Prop) : Nat → Nat → Prop
  | 0 => F0
  | 1 => F1
  | 2 => F2
  | 3 => F3
  | _ => F4
/-- Late and the Book together. -/
structure LB (w : World) (B lk bk : Nat) (Q : Nat → Prop) (S : Nat) : Prop where
  ex : ∃ n GA WA gl GC WC X gv wv nb A ln C M bv ov at' turn done used, LateIs w B lk n GA WA gl GC WC X gv wv ∧ BookOk w B bk nb A ln C M bv ov at' turn done used ∧ turn + n ≤ S ∧ (∀ i, i < n → gl i ≤ 1099511627776) ∧ (∀ k, LF lk n GA WA gv wv k → ¬ BF bk nb A bv ov k) ∧ Q = fun k => LF lk n GA WA gv wv k ∨ BF bk nb A bv ov k
theorem LB.later {w w' : World} {B lk bk S : Nat} {Q : Nat → Prop} (h : LB w B lk bk Q S) (hz : w.heap.size ≤ w'.heap.size) (hk : ∀ k, Q k → w'.heap[k]? = w.heap[k]?) : LB w' B lk bk Q S := by
  obtain ⟨n, GA, WA, gl, GC, WC, X, gv, wv, nb, A, ln, C, M, bv, ov, at', turn, done, used, hL, hB, h1, h2, h3, rfl⟩ := h.ex
  exact ⟨n, GA, WA, gl, GC, WC, X, gv, wv, nb, A, ln, C, M, bv, ov, at', turn, done, used, hL.later hz (fun k hf => hk k (Or.inl hf)), ⟨hB.is.later hz (fun k hf => hk k (Or.inr hf)), hB.hat, hB.hU, hB.hu, hB.hl, hB.hl2⟩, h1, h2, h3, rfl⟩
theorem LB.lt {w : World} {B lk bk S : Nat} {Q : Nat → Prop} (h : LB w B lk bk Q S) : ∀ k, Q k → B ≤ k ∧ k < w.heap.size := by
  obtain ⟨n, GA, WA, gl, GC, WC, X, gv, wv, nb, A, ln, C, M, bv, ov, at', turn, done, used, hL, hB, h1, h2, h3, rfl⟩ := h.ex
  intro k hf
  rcases hf with hf | hf
  · exact hL.ge k hf
  · exact hB.is.ge k hf
/-- THE STATE. -/
structure St (w1 w : World) (n : Nat) (z : Nat → Nat) (ea : Option Addr) (hc wb rb hb eb lk bk : Nat) (v hv : Value) (l : List Nat) (atR badR atE badE : Nat) (Q : Nat → Prop) (S : Nat) (p : Option Nat) (po : Obj) : Prop where
  since : w1.Since w1.heap.size w
  pair : Pair w wb w1.heap.size v hv l l
  rd : IsR w rb hb n z atR badR
  ey : EY w eb ea hc n z atE badE
  lb : LB w w1.heap.size lk bk Q S
  dj : Dj w w1.heap.size (fam (Foot wb v hv) (fun k => k = rb ∨ k = hb) (fun k => k = eb) Q (fun k => p = some k))
  lo : 0 < n → ∀ ad, ea = some ad → ad.block < w1.heap.size
  pc : ∀ q, p = some q → w.heap[q]? = some po
theorem St.hB {w1 w : World} {n : Nat} {z : Nat → Nat} {ea : Option Addr} {hc wb rb hb eb lk bk : Nat} {v hv : Value} {l : List Nat} {atR badR atE badE : Nat} {Q : Nat → Prop} {S : Nat} {p : Option Nat} {po : Obj} (h : St w1 w n z ea hc wb rb hb eb lk bk v hv l atR badR atE badE Q S p po) : w1.heap.size ≤ w.heap.size := h.since.size
theorem St.later {w1 w w' : World} {n : Nat} {z : Nat → Nat} {ea : Option Addr} {hc wb rb hb eb lk bk : Nat} {v hv : Value} {l : List Nat} {atR badR atE badE : Nat} {Q : Nat → Prop} {S : Nat} {p : Option Nat} {po : Obj} (h : St w1 w n z ea hc wb rb hb eb lk bk v hv l atR badR atE badE Q S p po) (hs : w.Since w.heap.size w') : St w1 w' n z ea hc wb rb hb eb lk bk v hv l atR badR atE badE Q S p po :=
  ⟨h.since.trans (since_mono hs h.since.size), (h.pair.since hs).1, h.rd.since hs, h.ey.later (hs.block eb h.ey.lt.1) (fun hp ad e => hs.block _ (h.ey.lt.2 hp ad e)), h.lb.later hs.size (fun k hk => hs.block k (h.lb.lt k hk).2), h.dj.since hs.size, h.lo, fun q e => (hs.block q (h.dj.lt 4 q (by decide) e).2).trans (h.pc q e)⟩
theorem mv_of_but {r : Nat} {w w' : World} (h : But r w w') {F : Nat → Prop} (hr : F r) : Mv F F w w' := ⟨h.os, h.tape, h.output, h.size, fun k hk hn => h.block k hk (fun e => hn (e ▸ hr)), fun _ hf => Or.inl hf⟩
theorem mv_of_move {wb : Nat} {v hv v' hv' : Value} {w w' : World} (h : Move wb v hv v' hv' w w') : Mv (Foot wb v hv) (Foot wb v' hv') w w' := ⟨h.os, h.tape, h.output, h.size, h.block, h.foot⟩
theorem mv_plus {F F' : Nat → Prop} {w w' : World} (h : Mv F F' w w') : Mv (fun k => F k ∨ False) F' w w' := h.widen (fun _ hk => Or.inl hk)

/-- ONE CALL OF THE WRITER. -/
theorem St.write {w1 w w' : World} {n : Nat} {z : Nat → Nat} {ea : Option Addr} {hc wb rb hb eb lk bk : Nat} {v hv : Value} {l : List Nat} {atR badR atE badE : Nat} {Q : Nat → Prop} {S : Nat} {p : Option Nat} {po : Obj} (h : St w1 w n z ea hc wb rb hb eb lk bk v hv l atR badR atE badE Q S p po) {v' hv' : Value} {l' : List Nat} (hp : Pair w' wb w1.heap.size v' hv' l' l') (hm : Move wb v hv v' hv' w w') :
    St w1 w' n z ea hc wb rb hb eb lk bk v' hv' l' atR badR atE badE Q S p po := by
  have hsz := hm.size
  obtain ⟨hd, keep⟩ := h.dj.step (i := 0) (by decide) (E := fun _ => False) (P' := fam (Foot wb v' hv') (fun k => k = rb ∨ k = hb) (fun k => k = eb) Q (fun k => p = some k)) (fun k hf => hf.elim) (mv_plus (mv_of_move hm)) (fun k hf => ⟨hp.ge k hf, hp.lt k hf⟩) (fun j hj hji => by
    match j, hj with
    | 0, _ => exact absurd rfl hji
    | 1, _ => rfl
    | 2, _ => rfl
    | 3, _ => rfl
    | 4, _ => rfl) rfl
  have hs' : w1.Since w1.heap.size w' := (mv_of_move hm).since h.since h.since.size (fun k hf => (h.dj.lt 0 k (by decide) hf).1)
  refine ⟨hs', hp, isr_keep h.rd (fun k e => keep 1 k (by decide) (by decide) e), h.ey.later (keep 2 eb (by decide) (by decide) rfl) (fun hpn ad e => ?_), h.lb.later hsz (fun k hk => keep 3 k (by decide) (by decide) hk), hd, h.lo, fun q e => (keep 4 q (by decide) (by decide) e).trans (h.pc q e)⟩
  have hlo := h.lo hpn ad e
  exact hm.block ad.block (h.ey.lt.2 hpn ad e) (fun hf => by have := (h.dj.lt 0 ad.block (by decide) hf).1; omega)
/-- ONE CALL OF THE READER. -/
theorem St.read {w1 w w' : World} {n : Nat} {z : Nat → Nat} {ea : Option Addr} {hc wb rb hb eb lk bk : Nat} {v hv : Value} {l : List Nat} {atR badR atE badE : Nat} {Q : Nat → Prop} {S : Nat} {p : Option Nat} {po : Obj} (h : St w1 w n z ea hc wb rb hb eb lk bk v hv l atR badR atE badE Q S p po) {at2 bad2 : Nat} (hb' : But rb w w') (hr : IsR w' rb hb n z at2 bad2) :
    St w1 w' n z ea hc wb rb hb eb lk bk v hv l at2 bad2 atE badE Q S p po := by
  have hm : Mv (fun k => k = rb ∨ k = hb) (fun k => k = rb ∨ k = hb) w w' := mv_of_but hb' (F := fun k => k = rb ∨ k = hb) (Or.inl rfl)
  obtain ⟨hd, keep⟩ := h.dj.step (i := 1) (by decide) (E := fun _ => False) (P' := fam (Foot wb v hv) (fun k => k = rb ∨ k = hb) (fun k => k = eb) Q (fun k => p = some k)) (fun k hf => hf.elim) (mv_plus hm) (fun k hf => by
    have := h.dj.lt 1 k (by decide) hf
    have := hb'.size
    omega) (fun j hj hji => by
    match j, hj with
    | 0, _ => rfl
    | 1, _ => exact absurd rfl hji
    | 2, _ => rfl
    | 3, _ => rfl
    | 4, _ => rfl) rfl
  have hlr := (h.dj.lt 1 rb (by decide) (Or.inl rfl)).1
  have hs' : w1.Since w1.heap.size w' := hb'.since h.since hlr h.since.size
  refine ⟨hs', h.pair.keep hb'.size (fun k hf => keep 0 k (by decide) (by decide) hf), hr, h.ey.later (keep 2 eb (by decide) (by decide) rfl) (fun hpn ad e => ?_), h.lb.later hb'.size (fun k hk => keep 3 k (by decide) (by decide) hk), hd, h.lo, fun q e => (keep 4 q (by decide) (by decide) e).trans (h.pc q e)⟩
  have hlo := h.lo hpn ad e
  exact hb'.block ad.block (h.ey.lt.2 hpn ad e) (by omega)
/-- ONE CALL OF THE DOCUMENT's READER. -/
theorem St.eye {w1 w w' : World} {n : Nat} {z : Nat → Nat} {ea : Option Addr} {hc wb rb hb eb lk bk : Nat} {v hv : Value} {l : List Nat} {atR badR atE badE : Nat} {Q : Nat → Prop} {S : Nat} {p : Option Nat} {po : Obj} (h : St w1 w n z ea hc wb rb hb eb lk bk v hv l atR badR atE badE Q S p po) {at2 bad2 : Nat} (hb' : But eb w w') (hr : EY w' eb ea hc n z at2 bad2) :
    St w1 w' n z ea hc wb rb hb eb lk bk v hv l atR badR at2 bad2 Q S p po := by
  have hm : Mv (fun k => k = eb) (fun k => k = eb) w w' := mv_of_but hb' (F := fun k => k = eb) rfl
  obtain ⟨hd, keep⟩ := h.dj.step (i := 2) (by decide) (E := fun _ => False) (P' := fam (Foot wb v hv) (fun k => k = rb ∨ k = hb) (fun k => k = eb) Q (fun k => p = some k)) (fun k hf => hf.elim) (mv_plus hm) (fun k hf => by
    have := h.dj.lt 2 k (by decide) hf
    have := hb'.size
    omega) (fun j hj hji => by
    match j, hj with
    | 0, _ => rfl
    | 1, _ => rfl
    | 2, _ => exact absurd rfl hji
    | 3, _ => rfl
    | 4, _ => rfl) rfl
  have hlr := (h.dj.lt 2 eb (by decide) rfl).1
  have hs' : w1.Since w1.heap.size w' := hb'.since h.since hlr h.since.size
  exact ⟨hs', h.pair.keep hb'.size (fun k hf => keep 0 k (by decide) (by decide) hf), isr_keep h.rd (fun k e => keep 1 k (by decide) (by decide) e), hr, h.lb.later hb'.size (fun k hk => keep 3 k (by decide) (by decide) hk), hd, h.lo, fun q e => (keep 4 q (by decide) (by decide) e).trans (h.pc q e)⟩
/-- ONE CALL OF LATE OR THE BOOK. -/
theorem St.both {w1 w w' : World} {n : Nat} {z : Nat → Nat} {ea : Option Addr} {hc wb rb hb eb lk bk : Nat} {v hv : Value} {l : List Nat} {atR badR atE badE : Nat} {Q : Nat → Prop} {S : Nat} {p : Option Nat} {po : Obj} (h : St w1 w n z ea hc wb rb hb eb lk bk v hv l atR badR atE badE Q S p po) {Q' E : Nat → Prop} {S' : Nat} (hE : ∀ k, E k → w1.heap.size ≤ k ∧ ∀ j, j < 5 → j ≠ 3 → ¬ fam (Foot wb v hv) (fun k => k = rb ∨ k = hb) (fun k => k = eb) Q (fun k => p = some k) j k) (hm : Mv (fun k => Q k ∨ E k) Q' w w') (hlb : LB w' w1.heap.size lk bk Q' S') :
    St w1 w' n z ea hc wb rb hb eb lk bk v hv l atR badR atE badE Q' S' p po := by
  obtain ⟨hd, keep⟩ := h.dj.step (i := 3) (by decide) (E := E) (P' := fam (Foot wb v hv) (fun k => k = rb ∨ k = hb) (fun k => k = eb) Q' (fun k => p = some k)) (fun k hf => (hE k hf).2) hm hlb.lt (fun j hj hji => by
    match j, hj with
    | 0, _ => rfl
    | 1, _ => rfl
    | 2, _ => rfl
    | 3, _ => exact absurd rfl hji
    | 4, _ => rfl) rfl
  have hF : ∀ k, Q k ∨ E k → w1.heap.size ≤ k := fun k hf => by
    rcases hf with hf | hf
    · exact (h.lb.lt k hf).1
    · exact (hE k hf).1
  have hs' : w1.Since w1.heap.size w' := hm.since h.since h.since.size hF
  refine ⟨hs', h.pair.keep hm.size (fun k hf => keep 0 k (by decide) (by decide) hf), isr_keep h.rd (fun k e => keep 1 k (by decide) (by decide) e), h.ey.later (keep 2 eb (by decide) (by decide) rfl) (fun hpn ad e => ?_), hlb, hd, h.lo, fun q e => (keep 4 q (by decide) (by decide) e).trans (h.pc q e)⟩
  have hlo := h.lo hpn ad e
  exact hm.block ad.block (h.ey.lt.2 hpn ad e) (fun hf => by have := hF ad.block hf; omega)

def i5 (K : Int) : Nat := (if K.tmod 5 < 0 then K.tmod 5 + 5 else K.tmod 5).toNat
theorem into_5 (K : Int) (w : World) : Calls Tryd.prog 26 #[.int .i64 K, .int .i64 5] w fun e w' => e = .returned (.int .i64 (i5 K : Nat)) ∧ w' = w := by
  have h1 := Int.tmod_lt_of_pos K (show (0 : Int) < 5 by decide)
  have h2 := Int.lt_tmod_of_pos K (show (0 : Int) < 5 by decide)
  unfold i5
  obtain ⟨T, hT⟩ : ∃ T, K.tmod 5 = T := ⟨_, rfl⟩
  rw [hT] at h1 h2 ⊢
  by_cases hn : T < 0
  · rw [if_pos hn]
    obtain ⟨k, hk⟩ : ∃ k : Nat, T + 5 = (k : Int) := ⟨(T + 5).toNat, by omega⟩
    have hk3 : (T + 5).toNat = k := by omega
    have hw : IntKind.i64.wrap (k : Int) = (k : Int) := by rw [IntKind.wrap_i64]; omega
    rw [hk3]
    clear hk3
    go_enter Tryd.func26, Tryd.ntmps26
    go_wp2_with fail
    go_ret
    exact ⟨rfl, rfl⟩
  · rw [if_neg hn]
    obtain ⟨k, hk⟩ : ∃ k : Nat, T = (k : Int) := ⟨T.toNat, by omega⟩
    subst hk
    have hk0 : ¬ ((k : Int) < 0) := by omega
    rw [Int.toNat_natCast]
    clear h1 h2 hn
    go_enter Tryd.func26, Tryd.ntmps26
    go_wp2_with fail
    go_ret
    exact ⟨rfl, rfl⟩
theorem i5_lt (K : Int) : i5 K < 5 := by
  have h1 := Int.tmod_lt_of_pos K (show (0 : Int) < 5 by decide)
  have h2 := Int.lt_tmod_of_pos K (show (0 : Int) < 5 by decide)
  unfold i5
  split <;> omega
theorem own_of_txt {B0 B : Nat} {w : World} {ta : Option Addr} {l : Nat} {tx : Nat → Nat} (h : Txt B0 w ta l tx) (hB : B ≤ B0) (hl : l ≤ 140737488355328) : Own w B (.slice ta l l) l tx ∧ ∀ ad, ta = some ad → B0 ≤ ad.block := by
  rcases h with ⟨rfl, rfl⟩ | ⟨t, rfl, hb, hr⟩
  · exact ⟨own_nil _ _ _, fun ad e => by cases e⟩
  · exact ⟨own_of_row hr (by omega) (Nat.le_refl _) (by unfold maxLen; omega) (fun j _ => rfl), fun ad e => by cases e; exact hb⟩

/-- Late.Add, on the state. -/
theorem st_add {w1 w : World} {n : Nat} {z : Nat → Nat} {ea : Option Addr} {hc wb rb hb eb lk bk : Nat} {v hv : Value} {l : List Nat} {atR badR atE badE : Nat} {Q : Nat → Prop} {S : Nat} {p : Option Nat} {po : Obj} (h : St w1 w n z ea hc wb rb hb eb lk bk v hv l atR badR atE badE Q S p po) (a : Option Addr) (len cap : Nat) (x : Nat → Nat) (hS : S ≤ 900000) (hlen : len ≤ 1099511627776)
    (hown : Own w w1.heap.size (.slice a len cap) len x) (hfree : ∀ ad, a = some ad → ∀ j, j < 5 → ¬ fam (Foot wb v hv) (fun k => k = rb ∨ k = hb) (fun k => k = eb) Q (fun k => p = some k) j ad.block) (wa : Option Addr) (wc : Nat) (hwb : Byt w wa len x) (hwn : wa = none → len = 0) (hwl : ∀ b off, wa = some ⟨b, off, none⟩ → ¬ Q b) :
    Calls Tryd.prog 38 #[.pointer (some ⟨lk, 0, none⟩), .slice a len cap, .slice wa len wc] w fun e w' => e = .returned (.tuple #[]) ∧ ∃ Q', St w1 w' n z ea hc wb rb hb eb lk bk v hv l atR badR atE badE Q' (S + 1) p po := by
  obtain ⟨n', GA, WA, gl, GC, WC, X, gv, wv, nb, A, ln, C, M, bv, ov, at', turn, done, used, hL, hB, h1, h2, h3, hQ⟩ := h.lb.ex
  have hQa : ∀ ad, a = some ad → ¬ LF lk n' GA WA gv wv ad.block ∧ ¬ BF bk nb A bv ov ad.block := fun ad he => by
    have := hfree ad he 3 (by decide)
    have e : fam (Foot wb v hv) (fun k => k = rb ∨ k = hb) (fun k => k = eb) Q (fun k => p = some k) 3 = Q := rfl
    rw [e, hQ] at this
    exact ⟨fun hf => this (Or.inl hf), fun hf => this (Or.inr hf)⟩
  refine (late_add hL h.hB a len cap x (by omega) hown (fun ad he => (hQa ad he).1) wa wc hwb hwn (fun b off he hf => hwl b off he (by rw [hQ]; exact Or.inl hf))).mono (fun e w' ⟨he, GA', WA', GC', WC', X', gv', wv', hL', hm⟩ => ⟨he, (fun k => LF lk (n' + 1) GA' WA' gv' wv' k ∨ BF bk nb A bv ov k), ?_⟩)
  have hBk : ∀ k, BF bk nb A bv ov k → w'.heap[k]? = w.heap[k]? := fun k hf => hm.block k (hB.is.ge k hf).2 (fun hg => by
    rcases hg with hg | ⟨ad, he, e⟩
    · exact h3 k hg hf
    · exact (hQa ad he).2 (e ▸ hf))
  have hdis' : ∀ k, LF lk (n' + 1) GA' WA' gv' wv' k → ¬ BF bk nb A bv ov k := fun k hf hg => by
    rcases hm.foot k hf with q | q
    · rcases q with q | ⟨ad, he, e⟩
      · exact h3 k q hg
      · exact (hQa ad he).2 (e ▸ hg)
    · have := (hB.is.ge k hg).2
      omega
  refine h.both (E := fun k => ∃ ad, a = some ad ∧ ad.block = k) (fun k hk => ?_) ?_ ⟨⟨n' + 1, GA', WA', put gl n' len, GC', WC', X', gv', wv', nb, A, ln, C, M, bv, ov, at', turn, done, used, hL', ⟨hB.is.later hm.size hBk, hB.hat, hB.hU, hB.hu, hB.hl, hB.hl2⟩, by omega, fun i hi => ?_, hdis', rfl⟩⟩
  · obtain ⟨ad, he, rfl⟩ := hk
    exact ⟨own_block hown _ (by rw [he]; rfl), fun j hj _ => hfree ad he j hj⟩
  · rw [hQ]
    refine ⟨hm.os, hm.tape, hm.output, hm.size, fun k hk hn => hm.block k hk (fun hf => ?_), fun k hf => ?_⟩
    · rcases hf with hf | hf
      · exact hn (Or.inl (Or.inl hf))
      · exact hn (Or.inr hf)
    · rcases hf with hf | hf
      · rcases hm.foot k hf with q | q
        · rcases q with q | q
          · exact Or.inl (Or.inl (Or.inl q))
          · exact Or.inl (Or.inr q)
        · exact Or.inr q
      · exact Or.inl (Or.inl (Or.inr hf))
  · by_cases e : i = n'
    · subst e; rw [put_at]; exact hlen
    · rw [put_ne _ _ _ e]; exact h2 i (by omega)
/-- Late.Settle, on the state. -/
theorem st_settle {w1 w : World} {n : Nat} {z : Nat → Nat} {ea : Option Addr} {hc wb rb hb eb lk bk : Nat} {v hv : Value} {l : List Nat} {atR badR atE badE : Nat} {Q : Nat → Prop} {S : Nat} {p : Option Nat} {po : Obj} (h : St w1 w n z ea hc wb rb hb eb lk bk v hv l atR badR atE badE Q S p po) (hS : S ≤ 900000) (K : Nat) :
    Calls Tryd.prog 41 #[.pointer (some ⟨lk, 0, none⟩), .pointer (some ⟨bk, 0, none⟩), .int .i64 K] w fun e w' => e = .returned (.bool true) ∧ ∃ Q', St w1 w' n z ea hc wb rb hb eb lk bk v hv l atR badR atE badE Q' S p po := by
  obtain ⟨n', GA, WA, gl, GC, WC, X, gv, wv, nb, A, ln, C, M, bv, ov, at', turn, done, used, hL, hB, h1, h2, h3, hQ⟩ := h.lb.ex
  refine (late_settle hL hB h.hB h3 K (by omega) h2 (by omega)).mono (fun e w' ⟨he, n2, GA2, WA2, gl2, GC2, WC2, X2, gv2, wv2, nb2, A2, ln2, C2, M2, bv2, ov2, at2, turn2, done2, used2, hL2, hB2, _, _, hle, hg2, hd2, hm⟩ => ⟨he, (fun k => LF lk n2 GA2 WA2 gv2 wv2 k ∨ BF bk nb2 A2 bv2 ov2 k), h.both (E := fun _ => False) (fun k hk => hk.elim) (by rw [hQ]; exact mv_plus hm) ⟨⟨n2, GA2, WA2, gl2, GC2, WC2, X2, gv2, wv2, nb2, A2, ln2, C2, M2, bv2, ov2, at2, turn2, done2, used2, hL2, hB2, by omega, hg2, hd2, rfl⟩⟩⟩)
/-- Book.Look, on the state. -/
theorem st_look {w1 w : World} {n : Nat} {z : Nat → Nat} {ea : Option Addr} {hc wb rb hb eb lk bk : Nat} {v hv : Value} {l : List Nat} {atR badR atE badE : Nat} {Q : Nat → Prop} {S : Nat} {p : Option Nat} {po : Obj} (h : St w1 w n z ea hc wb rb hb eb lk bk v hv l atR badR atE badE Q S p po) (hS : S ≤ 900000) :
    Calls Tryd.prog 42 #[.pointer (some ⟨bk, 0, none⟩)] w fun e w' => e = .returned (.bool true) ∧ ∃ Q', St w1 w' n z ea hc wb rb hb eb lk bk v hv l atR badR atE badE Q' S p po := by
  obtain ⟨n', GA, WA, gl, GC, WC, X, gv, wv, nb, A, ln, C, M, bv, ov, at', turn, done, used, hL, hB, h1, h2, h3, hQ⟩ := h.lb.ex
  refine (book_look hB h.hB (by omega)).mono (fun e w' ⟨he, nb2, A2, ln2, C2, M2, bv2, ov2, at2, done2, hB2, hm⟩ => ⟨he, (fun k => LF lk n' GA WA gv wv k ∨ BF bk nb2 A2 bv2 ov2 k), h.both (E := fun _ => False) (fun k hk => hk.elim) ?_ ⟨⟨n', GA, WA, gl, GC, WC, X, gv, wv, nb2, A2, ln2, C2, M2, bv2, ov2, at2, turn, done2, used, ?_, hB2, h1, h2, ?_, rfl⟩⟩⟩)
  · rw [hQ]
    refine ⟨hm.os, hm.tape, hm.output, hm.size, fun k hk hn => hm.block k hk (fun hf => hn (Or.inl (Or.inr hf))), fun k hf => ?_⟩
    rcases hf with hf | hf
    · exact Or.inl (Or.inl (Or.inl hf))
    · rcases hm.foot k hf with q | q
      · exact Or.inl (Or.inl (Or.inr q))
      · exact Or.inr q
  · exact hL.later hm.size (fun k hf => hm.block k (hL.ge k hf).2 (h3 k hf))
  · intro k hf hg
    rcases hm.foot k hg with q | q
    · exact h3 k hf q
    · have := (hL.ge k hf).2
      omega

theorem St.newp {w1 w : World} {n : Nat} {z : Nat → Nat} {ea : Option Addr} {hc wb rb hb eb lk bk : Nat} {v hv : Value} {l : List Nat} {atR badR atE badE : Nat} {Q : Nat → Prop} {S : Nat} {p : Option Nat} {po : Obj} (h : St w1 w n z ea hc wb rb hb eb lk bk v hv l atR badR atE badE Q S p po) (o : Obj) : St w1 (w.alloc o) n z ea hc wb rb hb eb lk bk v hv l atR badR atE badE Q S (some w.heap.size) o := by
  have sA : w.Since w.heap.size (w.alloc o) := (World.Since.refl _ _).alloc (Nat.le_refl _) _
  have zA : (w.alloc o).heap.size = w.heap.size + 1 := by simp
  have h2 := h.later sA
  have hB := h.hB
  have old : ∀ j, j < 4 → fam (Foot wb v hv) (fun k => k = rb ∨ k = hb) (fun k => k = eb) Q (fun k => some w.heap.size = some k) j = fam (Foot wb v hv) (fun k => k = rb ∨ k = hb) (fun k => k = eb) Q (fun k => p = some k) j := fun j hj => by
    match j, hj with
    | 0, _ => rfl
    | 1, _ => rfl
    | 2, _ => rfl
    | 3, _ => rfl
  refine ⟨h2.since, h2.pair, h2.rd, h2.ey, h2.lb, ⟨fun i k hi hp => ?_, fun i j k hi hj hij hp hq => ?_⟩, h.lo, fun q e => ?_⟩
  · by_cases e : i < 4
    · rw [old i e] at hp
      exact h2.dj.lt i k hi hp
    · obtain rfl : i = 4 := by omega
      have : some w.heap.size = some k := hp
      cases this
      omega
  · by_cases e : i < 4
    · rw [old i e] at hp
      by_cases e2 : j < 4
      · rw [old j e2] at hq
        exact h2.dj.dj i j k hi hj hij hp hq
      · obtain rfl : j = 4 := by omega
        have : some w.heap.size = some k := hq
        cases this
        have := (h.dj.lt i _ hi hp).2
        omega
    · obtain rfl : i = 4 := by omega
      have hk : some w.heap.size = some k := hp
      cases hk
      rw [old j (by omega)] at hq
      have := (h.dj.lt j _ hj hq).2
      omega
  · cases e
    exact heap_alloc_new w o
theorem St.cellp {w1 w : World} {n : Nat} {z : Nat → Nat} {ea : Option Addr} {hc wb rb hb eb lk bk : Nat} {v hv : Value} {l : List Nat} {atR badR atE badE : Nat} {Q : Nat → Prop} {S p t : Nat} {cs : Array Value} (h : St w1 w n z ea hc wb rb hb eb lk bk v hv l atR badR atE badE Q S (some p) (.cells cs t)) (i : Nat) : w.cell? ⟨p, i, none⟩ = cs[i]? := cell_of_row w p i cs t (0, 0) (h.pc p rfl)

def bookZero : Array Value := #[.slice none 0 0, .slice none 0 0, .int .i64 0, .slice none 0 0, .slice none 0 0, .int .i64 0, .slice none 0 0, .slice none 0 0, .int .i64 0, .slice none 0 0, .slice none 0 0, .int .i64 0, .slice none 0 0, .slice none 0 0, .int .i64 0, .slice none 0 0, .slice none 0 0, .int .i64 0, .slice none 0 0, .slice none 0 0, .int .i64 0, .slice none 0 0, .slice none 0 0, .int .i64 0, .slice none 0 0, .slice none 0 0, .int .i64 0, .slice none 0 0, .slice none 0 0, .int .i64 0, .slice none 0 0, .slice none 0 0, .int .i64 0, .slice none 0 0, .slice none 0 0, .int .i64 0, .int .i64 0, .int .i64 0, .int .i64 0]
theorem bookZero_at : ∀ i, i < 39 → bookZero[i]? = some (bookCell (.slice none 0 0) (.slice none 0 0) 0 0 0 0 i)
  | 0, _ => rfl | 1, _ => rfl | 2, _ => rfl | 3, _ => rfl | 4, _ => rfl | 5, _ => rfl | 6, _ => rfl | 7, _ => rfl | 8, _ => rfl | 9, _ => rfl
  | 10, _ => rfl | 11, _ => rfl | 12, _ => rfl | 13, _ => rfl | 14, _ => rfl | 15, _ => rfl | 16, _ => rfl | 17, _ => rfl | 18, _ => rfl | 19, _ => rfl
  | 20, _ => rfl | 21, _ => rfl | 22, _ => rfl | 23, _ => rfl | 24, _ => rfl | 25, _ => rfl | 26, _ => rfl | 27, _ => rfl | 28, _ => rfl | 29, _ => rfl
  | 30, _ => rfl | 31, _ => rfl | 32, _ => rfl | 33, _ => rfl | 34, _ => rfl | 35, _ => rfl | 36, _ => rfl | 37, _ => rfl | 38, _ => rfl
  | n + 39, h => by omega

theorem st_init {w1 w4 : World} {n : Nat} {z : Nat → Nat} {ea : Option Addr} {hc wb rb hb : Nat} (hs : w1.Since w1.heap.size w4) (hw : w4.rowIs wb 82 1 (fun _ => .slice none 0 0)) (h1 : w1.heap.size ≤ wb) (hR : IsR w4 rb hb n z 0 0) (h2 : w1.heap.size ≤ rb) (h3 : w1.heap.size ≤ hb) (h4 : wb ≠ rb) (h5 : wb ≠ hb)
    (hE : (∃ hb0 ho, ea = some ⟨hb0, ho, none⟩) ∨ (n = 0 ∧ hc = 0)) (hby : Byt w1 ea n z) (hcn : n ≤ hc) (hcm : hc ≤ 140737488351232) (po : Obj) :
    ∃ Q, St w1 (((w4.alloc (.cells #[.slice ea n hc, .int .i64 0, .int .i64 0] 51)).alloc (.cells bookZero 73)).alloc (.cells #[.slice none 0 0, .slice none 0 0] 76)) n z ea hc wb rb hb w4.heap.size (w4.heap.size + 1 + 1) (w4.heap.size + 1) (.slice none 0 0) (.slice none 0 0) [] 0 0 0 0 Q 0 none po := by
  have zE : (w4.alloc (.cells #[.slice ea n hc, .int .i64 0, .int .i64 0] 51)).heap.size = w4.heap.size + 1 := by simp
  have zK : ((w4.alloc (.cells #[.slice ea n hc, .int .i64 0, .int .i64 0] 51)).alloc (.cells bookZero 73)).heap.size = w4.heap.size + 1 + 1 := by simp
  have sE : w4.Since w4.heap.size (w4.alloc (.cells #[.slice ea n hc, .int .i64 0, .int .i64 0] 51)) := (World.Since.refl _ _).alloc (Nat.le_refl _) _
  have rE : (w4.alloc (.cells #[.slice ea n hc, .int .i64 0, .int .i64 0] 51)).rowIs w4.heap.size 51 3 (fun i => if i = 0 then .slice ea n hc else .int .i64 0) := World.rowIs_alloc w4 _ _ _ (fun i hi => by
    match i, hi with
    | 0, _ => rfl
    | 1, _ => rfl
    | 2, _ => rfl)
  generalize w4.alloc (.cells #[.slice ea n hc, .int .i64 0, .int .i64 0] 51) = w5 at *
  have rK : (w5.alloc (.cells bookZero 73)).rowIs w5.heap.size 73 39 (bookCell (.slice none 0 0) (.slice none 0 0) 0 0 0 0) := World.rowIs_alloc w5 bookZero _ _ bookZero_at
  have sK : w5.Since w5.heap.size (w5.alloc (.cells bookZero 73)) := (World.Since.refl _ _).alloc (Nat.le_refl _) _
  generalize w5.alloc (.cells bookZero 73) = w6 at *
  have rL : (w6.alloc (.cells #[.slice none 0 0, .slice none 0 0] 76)).rowIs w6.heap.size 76 2 (lateCell (.slice none 0 0) (.slice none 0 0)) := World.rowIs_alloc w6 _ _ _ (fun i hi => by
    match i, hi with
    | 0, _ => rfl
    | 1, _ => rfl)
  have sL : w6.Since w6.heap.size (w6.alloc (.cells #[.slice none 0 0, .slice none 0 0] 76)) := (World.Since.refl _ _).alloc (Nat.le_refl _) _
  have zL : (w6.alloc (.cells #[.slice none 0 0, .slice none 0 0] 76)).heap.size = w6.heap.size + 1 := by simp
  generalize w6.alloc (.cells #[.slice none 0 0, .slice none 0 0] 76) = w7 at *
  have s47 : w4.Since w4.heap.size w7 := sE.trans (since_mono (sK.trans (since_mono sL (by omega))) (by omega))
  have s57 : w5.Since w5.heap.size w7 := sK.trans (since_mono sL (by omega))
  have s17 := hs.trans (since_mono s47 hs.size)
  have z4 := hs.size
  have lw := hw.lt
  have lr := hR.rd.lt
  have lh := hR.row.lt
  have rE7 := row_since rE s57
  have rK7 := row_since rK sL
  rw [zE] at rK7
  rw [zK] at rL
  have hLF0 : ∀ k, LF (w4.heap.size + 1 + 1) 0 (fun _ => none) (fun _ => none) (.slice none 0 0) (.slice none 0 0) k → k = w4.heap.size + 1 + 1 := fun k hf => by
    rcases hf with e | e | e | ⟨j, a, hj, _⟩ | ⟨j, a, hj, _⟩
    · exact e
    · simp [Value.ownBlock] at e
    · simp [Value.ownBlock] at e
    · exact absurd hj (Nat.not_lt_zero _)
    · exact absurd hj (Nat.not_lt_zero _)
  have hBF0 : ∀ k, BF (w4.heap.size + 1) 0 (fun _ => none) (.slice none 0 0) (.slice none 0 0) k → k = w4.heap.size + 1 := fun k hf => by
    rcases hf with e | e | e | ⟨j, a, hj, _⟩
    · exact e
    · simp [Value.ownBlock] at e
    · simp [Value.ownBlock] at e
    · exact absurd hj (Nat.not_lt_zero _)
  have hFt : ∀ k, Foot wb (.slice none 0 0) (.slice none 0 0) k → k = wb := fun k hf => by
    rcases hf with e | e | e
    · exact e
    · simp [Value.ownBlock] at e
    · simp [Value.ownBlock] at e
  have hBook : BookOk w7 w1.heap.size (w4.heap.size + 1) 0 (fun _ => none) (fun _ => 0) (fun _ => 0) (fun _ => 0) (.slice none 0 0) (.slice none 0 0) 0 0 0 0 :=
    ⟨⟨rK7, ⟨rfl, Or.inl ⟨rfl, rfl⟩⟩, ⟨rfl, Or.inl ⟨rfl, rfl⟩⟩, fun i hi => absurd hi (Nat.not_lt_zero _), fun i _ hi => absurd hi (Nat.not_lt_zero _), fun i a hi => absurd hi (Nat.not_lt_zero _), fun i j a a' _ hi => absurd hi (Nat.not_lt_zero _), ⟨by simp [Value.ownBlock], by simp [Value.ownBlock]⟩, fun k e => by simp [Value.ownBlock] at e, Nat.le_refl _, by omega, fun i hi => absurd hi (Nat.not_lt_zero _)⟩, Nat.le_refl _, Nat.le_refl _, by decide, fun i hi => absurd hi (Nat.not_lt_zero _), fun i _ hi => absurd hi (Nat.not_lt_zero _)⟩
  have hEY : EY w7 w4.heap.size ea hc n z 0 0 := by
    rcases hE with ⟨hb0, ho, rfl⟩ | ⟨rfl, rfl⟩
    · refine Or.inl ⟨hb0, ho, rfl, rE7.congr (fun i hi => by
        match i, hi with
        | 0, _ => rfl
        | 1, _ => rfl
        | 2, _ => rfl), fun j hj => ?_, fun hp => ?_, hR.byte, Nat.zero_le _, by omega, hcn, by omega⟩
      · obtain ⟨b, off, e, hc'⟩ := hby j hj
        cases e
        rw [s17.cell (a := ⟨hb0, ho + j, none⟩) (World.block_lt_of_cell? _ _ hc')]; exact hc'
      · obtain ⟨b, off, e, hc'⟩ := hby 0 hp
        cases e
        have := World.block_lt_of_cell? _ _ hc'
        replace this : hb0 < w1.heap.size := this
        omega
    · exact Or.inr ⟨rfl, rfl, rfl, rE7.congr (fun i hi => by
        match i, hi with
        | 0, _ => rfl
        | 1, _ => rfl
        | 2, _ => rfl)⟩
  refine ⟨fun k => LF (w4.heap.size + 1 + 1) 0 (fun _ => none) (fun _ => none) (.slice none 0 0) (.slice none 0 0) k ∨ BF (w4.heap.size + 1) 0 (fun _ => none) (.slice none 0 0) (.slice none 0 0) k, s17, ⟨⟨row_since hw s47, own_nil _ _ _, by simp [Value.ownBlock], s17.size⟩, own_nil _ _ _, by simp [Value.ownBlock], fun k e => by simp [Value.ownBlock] at e, h1⟩, hR.since s47, hEY, ⟨0, _, _, fun _ => 0, fun _ => 0, fun _ => 0, fun _ _ => 0, _, _, 0, _, _, _, _, _, _, 0, 0, 0, 0, late_none rL (by omega), hBook, Nat.le_refl _, fun i hi => absurd hi (Nat.not_lt_zero _), fun k hf hg => ?_, rfl⟩, ⟨fun i k hi hp => ?_, fun i j k hi hj hij hp hq => ?_⟩, fun hp ad e => ?_, fun q e => by cases e⟩
  · have := hLF0 k hf
    have := hBF0 k hg
    omega
  · have hQ : ∀ k, (LF (w4.heap.size + 1 + 1) 0 (fun _ => none) (fun _ => none) (.slice none 0 0) (.slice none 0 0) k ∨ BF (w4.heap.size + 1) 0 (fun _ => none) (.slice none 0 0) (.slice none 0 0) k) → w4.heap.size < k ∧ k < w7.heap.size := fun k hf => by
      rcases hf with hf | hf
      · have := hLF0 k hf; omega
      · have := hBF0 k hf; omega
    match i, hi with
    | 0, _ => have := hFt k hp; omega
    | 1, _ =>
      rcases hp with e | e
      · omega
      · omega
    | 2, _ => have : k = w4.heap.size := hp; omega
    | 3, _ => have := hQ k hp; omega
    | 4, _ => cases hp
  · have hQ : ∀ k, (LF (w4.heap.size + 1 + 1) 0 (fun _ => none) (fun _ => none) (.slice none 0 0) (.slice none 0 0) k ∨ BF (w4.heap.size + 1) 0 (fun _ => none) (.slice none 0 0) (.slice none 0 0) k) → w4.heap.size < k := fun k hf => by
      rcases hf with hf | hf
      · have := hLF0 k hf; omega
      · have := hBF0 k hf; omega
    have cls : ∀ i, i < 5 → fam (Foot wb (.slice none 0 0) (.slice none 0 0)) (fun k => k = rb ∨ k = hb) (fun k => k = w4.heap.size) (fun k => LF (w4.heap.size + 1 + 1) 0 (fun _ => none) (fun _ => none) (.slice none 0 0) (.slice none 0 0) k ∨ BF (w4.heap.size + 1) 0 (fun _ => none) (.slice none 0 0) (.slice none 0 0) k) (fun k => none = some k) i k → (i = 0 ∧ k = wb) ∨ (i = 1 ∧ (k = rb ∨ k = hb)) ∨ (i = 2 ∧ k = w4.heap.size) ∨ (i = 3 ∧ w4.heap.size < k) := fun i hi hp => by
      match i, hi with
      | 0, _ => exact Or.inl ⟨rfl, hFt k hp⟩
      | 1, _ => exact Or.inr (Or.inl ⟨rfl, hp⟩)
      | 2, _ => exact Or.inr (Or.inr (Or.inl ⟨rfl, hp⟩))
      | 3, _ => exact Or.inr (Or.inr (Or.inr ⟨rfl, hQ k hp⟩))
      | 4, _ => cases hp
    have c1 := cls i hi hp
    have c2 := cls j hj hq
    omega
  · obtain ⟨b, off, e2, hc'⟩ := hby 0 hp
    rw [e] at e2
    cases e2
    exact World.block_lt_of_cell? _ _ hc'
end Go.Proofs.YtbmdnlomhnodeabDoor
