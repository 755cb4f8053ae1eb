/- Own texts, joined: R22, R23, RM2, FamB, CL, RM3, RM4, RM5. -/
import Derived.Test.YtfmndfgdchhaeaaM3
import Derived.Test.YtfmndfgdchhaeaaProg
import Derived.WalkKit
import Derived.OwnWalk
import Derived.Below
import Derived.Deep.OwnRows
import Derived.Deep.Onto
import Derived.Deep.DeepAppendWide
import Derived.Deep.MidRow
import Derived.Maps.AppendAt
import Derived.Laws.MakeOwn
import Derived.Deep.CutBlock
import Derived.Deep.RegionHeld3

/- The document's EqStored. -/
namespace Go.Proofs.Ytfmndfgdchhaeaa
open Go.RowKit Go.Maps
set_option maxRecDepth 100000
set_option maxRecDepth 100000

end Go.Proofs.Ytfmndfgdchhaeaa

/- ReplicaFences: what a step tells, as plain facts. -/
namespace Go.Proofs.Ytfmndfgdchhaeaa
open Go.RowKit Go.Maps
set_option maxRecDepth 100000
set_option maxRecDepth 100000

theorem cmT_pos {a b c d : Nat} (h : 0 < cmT a b c d) : c < a ∨ (a = c ∧ d < b) := by
  unfold cmT orM cmN at h
  by_cases h1 : a < c
  · rw [if_pos h1] at h; simp at h
  · rw [if_neg h1] at h
    by_cases h2 : c < a
    · exact .inl h2
    · rw [if_neg h2] at h
      simp at h
      by_cases h3 : b < d
      · rw [if_pos h3] at h; simp at h
      · rw [if_neg h3] at h
        by_cases h4 : d < b
        · exact .inr ⟨by omega, h4⟩
        · rw [if_neg h4] at h; simp at h
theorem cmT_zero {a b c d : Nat} (h : cmT a b c d = 0) : a = c ∧ b = d := by
  unfold cmT orM cmN at h
  by_cases h1 : a < c
  · rw [if_pos h1] at h; simp at h
  · rw [if_neg h1] at h
    by_cases h2 : c < a
    · rw [if_pos h2] at h; simp at h
    · rw [if_neg h2] at h
      simp at h
      by_cases h3 : b < d
      · rw [if_pos h3] at h; simp at h
      · rw [if_neg h3] at h
        by_cases h4 : d < b
        · rw [if_pos h4] at h; simp at h
        · omega
theorem ctM_ge {a b c d : Nat} (h : c < a ∨ (a = c ∧ d ≤ b)) : ¬ (ctM a b c d < 0) := by
  unfold ctM
  rw [if_neg (by omega)]
  split <;> omega
structure FN (r : Rp) (M : Mg) (H : Hd) : Prop where
  pr : r.p ≤ H.r.p
  tg : ¬ (ctM H.r.te H.r.ts r.te r.ts < 0)
  vl : H.r.te = r.te → H.r.ts = r.ts → H.r.v = r.v
  ch : M.n 0 ≠ 0 → (H.b3 = true ↔ ¬ (H.r.p = r.p ∧ H.r.te = r.te ∧ H.r.ts = r.ts ∧ H.r.v = r.v))
  tk : H.b2 = true → ((r.p : Nat) : Int) ≤ epM M
  pm : H.b1 = true → H.a.n 0 = 2 → ∃ E : Nat, H.a.n 4 = (E : Nat) ∧ r.p ≤ E ∧ H.a.n 5 = (r.te : Nat) ∧ H.a.n 6 = (r.ts : Nat) ∧ H.a.s 10 = H.r.v ∧ M.n 4 = (E : Nat) ∧ H.r.p = E ∧ H.r.te = r.te ∧ H.r.ts = r.ts
  wr : H.b1 = true → H.a.n 0 = 5 → ∃ E Q : Nat, H.a.n 5 = (E : Nat) ∧ H.a.n 6 = (Q : Nat) ∧ M.n 5 = (E : Nat) ∧ M.n 6 = (Q : Nat) ∧ H.r.te = E ∧ H.r.ts = Q ∧ ¬ (ctM E Q r.te r.ts < 0)
  ot : H.b1 = false ∨ (H.a.n 0 ≠ 2 ∧ H.a.n 0 ≠ 5) → H.r.te = r.te ∧ H.r.ts = r.ts
theorem FN.still {r r' : Rp} {M a : Mg} {b1 : Bool} (hp : r'.p = r.p) (ht : r'.te = r.te) (hs : r'.ts = r.ts) (hv : r'.v = r.v) (ha : b1 = false ∨ (a.n 0 ≠ 2 ∧ a.n 0 ≠ 5)) : FN r M ⟨a, b1, false, false, r'⟩ :=
  ⟨by show r.p ≤ r'.p; omega, by show ¬ (ctM r'.te r'.ts r.te r.ts < 0); exact ctM_ge (by omega), fun _ _ => hv, fun _ => ⟨fun e => by simp at e, fun e => absurd ⟨hp, ht, hs, hv⟩ e⟩, fun e => by simp at e, fun e k => by
    have e : b1 = true := e
    have k : a.n 0 = 2 := k
    rcases ha with h | h
    · rw [h] at e; simp at e
    · exact absurd k h.1, fun e k => by
    have e : b1 = true := e
    have k : a.n 0 = 5 := k
    rcases ha with h | h
    · rw [h] at e; simp at e
    · exact absurd k h.2, fun _ => ⟨ht, hs⟩⟩
theorem fenceFacts (o : Od) (r : Rp) (hN : MgN o.m) : FN r (atM o r).1 (atM o r).2 := by
  have h4 := hN.nat 4 rfl
  have h5 := hN.nat 5 rfl
  have h6 := hN.nat 6 rfl
  by_cases d1 : o.d = 1
  · have ea : atM o r = (o.m, hearM r o.m) := if_pos d1
    rw [ea]
    show FN r o.m (hearM r o.m)
    unfold hearM
    by_cases k1 : o.m.n 0 = 1
    · rw [if_pos k1]
      unfold hearP
      by_cases q : (o.m.n 4).toNat < r.p ∨ (r.p < (o.m.n 4).toNat ∧ 0 < r.wt)
      · rw [if_pos q]
        exact FN.still rfl rfl rfl rfl (.inr ⟨by show (3 : Int) ≠ 2; decide, by show (3 : Int) ≠ 5; decide⟩)
      · rw [if_neg q]
        refine ⟨by show r.p ≤ (o.m.n 4).toNat; omega, by show ¬ (ctM r.te r.ts r.te r.ts < 0); exact ctM_ge (by omega), fun _ _ => rfl, fun _ => ?_, fun e => by simp at e, fun _ _ => ⟨(o.m.n 4).toNat, rfl, by omega, rfl, rfl, rfl, h4.1, rfl, rfl, rfl⟩, fun _ k => ?_, fun _ => ⟨rfl, rfl⟩⟩
        · show decide (r.p ≠ (o.m.n 4).toNat) = true ↔ ¬ ((o.m.n 4).toNat = r.p ∧ r.te = r.te ∧ r.ts = r.ts ∧ r.v = r.v)
          simp; omega
        · have k : (2 : Int) = 5 := k
          exact absurd k (by decide)
    · rw [if_neg k1]
      by_cases k4 : o.m.n 0 = 4
      · rw [if_pos k4]
        have hep : epM o.m = o.m.n 5 := if_pos k4
        unfold hearW
        by_cases q : (o.m.n 5).toNat < r.p
        · rw [if_pos q]
          exact FN.still rfl rfl rfl rfl (.inr ⟨by show (3 : Int) ≠ 2; decide, by show (3 : Int) ≠ 5; decide⟩)
        · rw [if_neg q]
          by_cases q1 : 0 < cmT (o.m.n 5).toNat (o.m.n 6).toNat r.te r.ts
          · rw [if_pos q1]
            have hc := cmT_pos q1
            refine ⟨by show r.p ≤ (o.m.n 5).toNat; omega, by show ¬ (ctM (o.m.n 5).toNat (o.m.n 6).toNat r.te r.ts < 0); exact ctM_ge (by omega), fun e1 e2 => ?_, fun _ => ?_, fun _ => by rw [hep]; omega, fun _ k => ?_, fun _ _ => ⟨(o.m.n 5).toNat, (o.m.n 6).toNat, rfl, rfl, h5.1, h6.1, rfl, rfl, ctM_ge (by omega)⟩, fun e => ?_⟩
            · have e1 : (o.m.n 5).toNat = r.te := e1
              have e2 : (o.m.n 6).toNat = r.ts := e2
              omega
            · show true = true ↔ ¬ ((o.m.n 5).toNat = r.p ∧ (o.m.n 5).toNat = r.te ∧ (o.m.n 6).toNat = r.ts ∧ _)
              exact ⟨fun _ e => by omega, fun _ => rfl⟩
            · have k : (5 : Int) = 2 := k
              exact absurd k (by decide)
            · rcases e with e | e
              · simp at e
              · exact absurd rfl e.2
          · rw [if_neg q1]
            have hch : ∀ x : Nat, (decide (r.p ≠ x) = true ↔ ¬ (x = r.p ∧ r.te = r.te ∧ r.ts = r.ts ∧ r.v = r.v)) := fun x => by simp; omega
            by_cases q2 : cmT (o.m.n 5).toNat (o.m.n 6).toNat r.te r.ts = 0
            · rw [if_pos q2]
              have hc := cmT_zero q2
              refine ⟨by show r.p ≤ (o.m.n 5).toNat; omega, by show ¬ (ctM r.te r.ts r.te r.ts < 0); exact ctM_ge (by omega), fun _ _ => rfl, fun _ => hch _, fun _ => by rw [hep]; omega, fun _ k => ?_, fun _ _ => ⟨(o.m.n 5).toNat, (o.m.n 6).toNat, rfl, rfl, h5.1, h6.1, hc.1.symm, hc.2.symm, ctM_ge (by omega)⟩, fun _ => ⟨rfl, rfl⟩⟩
              have k : (5 : Int) = 2 := k
              exact absurd k (by decide)
            · rw [if_neg q2]
              refine ⟨by show r.p ≤ (o.m.n 5).toNat; omega, by show ¬ (ctM r.te r.ts r.te r.ts < 0); exact ctM_ge (by omega), fun _ _ => rfl, fun _ => hch _, fun _ => by rw [hep]; omega, fun e => by simp at e, fun e => by simp at e, fun _ => ⟨rfl, rfl⟩⟩
      · rw [if_neg k4]
        by_cases k6 : o.m.n 0 = 6
        · rw [if_pos k6]
          have hep : epM o.m = o.m.n 4 := if_neg k4
          unfold hearB
          by_cases q : (o.m.n 4).toNat < r.p
          · rw [if_pos q]
            exact FN.still rfl rfl rfl rfl (.inr ⟨by show (3 : Int) ≠ 2; decide, by show (3 : Int) ≠ 5; decide⟩)
          · rw [if_neg q]
            refine ⟨by show r.p ≤ (o.m.n 4).toNat; omega, by show ¬ (ctM r.te r.ts r.te r.ts < 0); exact ctM_ge (by omega), fun _ _ => rfl, fun _ => ?_, fun _ => by rw [hep]; omega, fun _ k => ?_, fun _ k => ?_, fun _ => ⟨rfl, rfl⟩⟩
            · show decide (r.p ≠ (o.m.n 4).toNat) = true ↔ ¬ ((o.m.n 4).toNat = r.p ∧ r.te = r.te ∧ r.ts = r.ts ∧ r.v = r.v)
              simp; omega
            · have k : (7 : Int) = 2 := k
              exact absurd k (by decide)
            · have k : (7 : Int) = 5 := k
              exact absurd k (by decide)
        · rw [if_neg k6]
          exact FN.still rfl rfl rfl rfl (.inl rfl)
  · have ea : atM o r = (mg0, ⟨mg0, false, false, false, if o.d = 2 then { r with wt := wtM (r.wt - 1) } else if o.d = 3 then (if r.p < o.ep then { r with p := o.ep } else r) else r⟩) := if_neg d1
    rw [ea]
    by_cases d2 : o.d = 2
    · rw [if_pos d2]
      exact FN.still rfl rfl rfl rfl (.inl rfl)
    · rw [if_neg d2]
      by_cases d3 : o.d = 3
      · rw [if_pos d3]
        by_cases d4 : r.p < o.ep
        · rw [if_pos d4]
          refine ⟨by show r.p ≤ o.ep; omega, by show ¬ (ctM r.te r.ts r.te r.ts < 0); exact ctM_ge (by omega), fun _ _ => rfl, fun e => absurd rfl e, fun e => by simp at e, fun e => by simp at e, fun e => by simp at e, fun _ => ⟨rfl, rfl⟩⟩
        · rw [if_neg d4]
          exact FN.still rfl rfl rfl rfl (.inl rfl)
      · rw [if_neg d3]
        exact FN.still rfl rfl rfl rfl (.inl rfl)
end Go.Proofs.Ytfmndfgdchhaeaa

/- ReplicaMeets: what a step tells, and what the law keeps, as plain data. -/
namespace Go.Proofs.Ytfmndfgdchhaeaa
open Go.RowKit
set_option maxRecDepth 100000
set_option maxRecDepth 100000

/-- A tag is another one or below it. -/
def tle (a b : Nat × Nat) : Prop := a.1 < b.1 ∨ (a.1 = b.1 ∧ a.2 ≤ b.2)
theorem tle_refl (a : Nat × Nat) : tle a a := .inr ⟨rfl, Nat.le_refl _⟩
theorem tle_trans {a b c : Nat × Nat} (h : tle a b) (k : tle b c) : tle a c := by unfold tle at *; omega
theorem ctM_lt {a b c d : Nat} : (ctM a b c d < 0) ↔ ¬ tle (c, d) (a, b) := by
  unfold ctM tle
  by_cases h : a < c ∨ (a = c ∧ b < d)
  · rw [if_pos h]
    simp
    omega
  · rw [if_neg h]
    by_cases h2 : a = c ∧ b = d
    · rw [if_pos h2]
      simp
      omega
    · rw [if_neg h2]
      simp
      omega
theorem cmT_le {a b c d : Nat} (h : ¬ 0 < cmT a b c d) : tle (a, b) (c, d) := by
  unfold cmT orM cmN at h
  unfold tle
  show a < c ∨ (a = c ∧ b ≤ d)
  by_cases h1 : a < c
  · exact .inl h1
  · rw [if_neg h1] at h
    by_cases h2 : c < a
    · rw [if_pos h2] at h; simp at h
    · rw [if_neg h2] at h
      simp at h
      by_cases h3 : b < d
      · omega
      · rw [if_neg h3] at h
        by_cases h4 : d < b
        · rw [if_pos h4] at h; simp at h
        · omega
/-- What a step of a copy tells. -/
structure SF (r : Rp) (H : Hd) : Prop where
  pr : r.p ≤ H.r.p
  tg : tle (r.te, r.ts) (H.r.te, H.r.ts)
  wr : H.a.n 0 = 5 → ∃ E Q : Nat, H.a.n 5 = (E : Nat) ∧ H.a.n 6 = (Q : Nat) ∧ E < 18446744073709551616 ∧ Q < 18446744073709551616 ∧ r.p ≤ E ∧ tle (E, Q) (H.r.te, H.r.ts)
  pm : H.a.n 0 = 2 → ∃ E : Nat, H.a.n 4 = (E : Nat) ∧ E < 18446744073709551616 ∧ H.a.n 5 = (r.te : Nat) ∧ H.a.n 6 = (r.ts : Nat) ∧ H.r.p = E ∧ H.r.te = r.te ∧ H.r.ts = r.ts
theorem SF.still {r r' : Rp} {a : Mg} {b1 b2 b3 : Bool} (hp : r.p ≤ r'.p) (ht : r'.te = r.te) (hs : r'.ts = r.ts) (ha : a.n 0 ≠ 2 ∧ a.n 0 ≠ 5) : SF r ⟨a, b1, b2, b3, r'⟩ :=
  ⟨hp, .inr ⟨ht.symm, by show r.ts ≤ r'.ts; omega⟩, fun e => absurd e ha.2, fun e => absurd e ha.1⟩
theorem sf_hear (r : Rp) (m : Mg) (hN : MgN m) : SF r (hearM r m) := by
  have h4 := hN.nat 4 rfl
  have h5 := hN.nat 5 rfl
  have h6 := hN.nat 6 rfl
  unfold hearM
  by_cases k1 : m.n 0 = 1
  · rw [if_pos k1]
    unfold hearP
    split
    · exact SF.still (Nat.le_refl _) rfl rfl ⟨by show (3 : Int) ≠ 2; decide, by show (3 : Int) ≠ 5; decide⟩
    · rename_i q
      exact ⟨by show r.p ≤ (m.n 4).toNat; omega, tle_refl _, fun e => absurd e (by show (2 : Int) ≠ 5; decide), fun _ => ⟨(m.n 4).toNat, rfl, h4.2, rfl, rfl, rfl, rfl, rfl⟩⟩
  · rw [if_neg k1]
    by_cases k2 : m.n 0 = 4
    · rw [if_pos k2]
      unfold hearW
      split
      · exact SF.still (Nat.le_refl _) rfl rfl ⟨by show (3 : Int) ≠ 2; decide, by show (3 : Int) ≠ 5; decide⟩
      · rename_i q
        have hpe : r.p ≤ (m.n 5).toNat := by omega
        split
        · rename_i q2
          have := cmT_pos q2
          exact ⟨hpe, by show tle (r.te, r.ts) ((m.n 5).toNat, (m.n 6).toNat); unfold tle; omega, fun _ => ⟨(m.n 5).toNat, (m.n 6).toNat, rfl, rfl, h5.2, h6.2, hpe, tle_refl _⟩, fun e => absurd e (by show (5 : Int) ≠ 2; decide)⟩
        · rename_i q2
          split
          · exact ⟨hpe, tle_refl _, fun _ => ⟨(m.n 5).toNat, (m.n 6).toNat, rfl, rfl, h5.2, h6.2, hpe, cmT_le q2⟩, fun e => absurd e (by show (5 : Int) ≠ 2; decide)⟩
          · exact SF.still hpe rfl rfl ⟨by show (0 : Int) ≠ 2; decide, by show (0 : Int) ≠ 5; decide⟩
    · rw [if_neg k2]
      split
      · unfold hearB
        split
        · exact SF.still (Nat.le_refl _) rfl rfl ⟨by show (3 : Int) ≠ 2; decide, by show (3 : Int) ≠ 5; decide⟩
        · rename_i q
          exact SF.still (by show r.p ≤ (m.n 4).toNat; omega) rfl rfl ⟨by show (7 : Int) ≠ 2; decide, by show (7 : Int) ≠ 5; decide⟩
      · exact SF.still (Nat.le_refl _) rfl rfl ⟨by show (0 : Int) ≠ 2; decide, by show (0 : Int) ≠ 5; decide⟩

/-- What the law keeps of the copies. -/
structure Ms where
  R : Nat → Rp
  tl : Nat → Nat × Nat
  ns : Nat
  sn : Nat → Nat × Nat
  nw : Nat
  wh : Nat → Nat → Bool
  ne : Nat
  ep : Nat → Nat
  nf : Nat
  fr : Nat → Nat → Bool
  ni : Nat
  wi : Nat → Nat × Nat
def up {α : Type} (f : Nat → α) (k : Nat) (v : α) : Nat → α := fun j => if j = k then v else f j
theorem up_same {α : Type} (f : Nat → α) (k : Nat) (v : α) : up f k v k = v := if_pos rfl
theorem up_ne {α : Type} (f : Nat → α) (k : Nat) (v : α) {j : Nat} (h : j ≠ k) : up f k v j = f j := if_neg h
/-- The greater of two tags. -/
def tmx (a b : Nat × Nat) : Nat × Nat := if ctM a.1 a.2 b.1 b.2 < 0 then b else a
theorem tmx_l (a b : Nat × Nat) : tle a (tmx a b) := by
  unfold tmx
  split
  · rename_i h
    have := ctM_lt.1 h
    unfold tle at *
    omega
  · exact tle_refl _
theorem tmx_r (a b : Nat × Nat) : tle b (tmx a b) := by
  unfold tmx
  split
  · exact tle_refl _
  · rename_i h
    have : ¬ ¬ tle b a := fun q => h (ctM_lt.2 q)
    exact Classical.byContradiction fun q => this q
theorem tmx_cases (a b : Nat × Nat) {c : Nat × Nat} (ha : tle a c) (hb : tle b c) : tle (tmx a b) c := by
  unfold tmx
  split
  · exact hb
  · exact ha
structure Iv (n : Nat) (M : Ms) : Prop where
  eqw : M.nw = M.ns
  eqf : M.nf = M.ne
  eqi : M.ni = M.ne
  a : ∀ k, k < n → tle (M.tl k) ((M.R k).te, (M.R k).ts)
  b : ∀ i, i < M.ns → ∀ k, k < n → M.wh i k = true → tle (M.sn i) (M.tl k)
  c : ∀ e, e < M.ne → ∀ k, k < n → M.fr e k = true → M.ep e ≤ (M.R k).p
  d : ∀ i, i < M.ns → ∀ e, e < M.ne → ∀ k, k < n → M.wh i k = true → M.fr e k = true → (M.sn i).1 < M.ep e → tle (M.sn i) (M.wi e)
def Ms.rep (M : Ms) (k : Nat) (r : Rp) : Ms := { M with R := up M.R k r }
theorem Iv.rep {n : Nat} {M : Ms} (h : Iv n M) (k : Nat) (r : Rp) (hp : (M.R k).p ≤ r.p) (ht : tle ((M.R k).te, (M.R k).ts) (r.te, r.ts)) : Iv n (M.rep k r) :=
  ⟨h.eqw, h.eqf, h.eqi, fun j hj => by
    show tle (M.tl j) ((up M.R k r j).te, (up M.R k r j).ts)
    by_cases e : j = k
    · subst e
      rw [up_same]
      exact tle_trans (h.a j hj) ht
    · rw [up_ne _ _ _ e]
      exact h.a j hj, h.b, fun e he j hj hf => by
    show M.ep e ≤ (up M.R k r j).p
    have q := h.c e he j hj hf
    by_cases e1 : j = k
    · subst e1
      rw [up_same]
      omega
    · rw [up_ne _ _ _ e1]
      exact q, h.d⟩
/-- A wrote is told by copy k: the greatest tag that it has answered. -/
def Ms.tel (M : Ms) (k : Nat) (t : Nat × Nat) : Ms := { M with tl := up M.tl k (tmx (M.tl k) t) }
theorem Iv.tel {n : Nat} {M : Ms} (h : Iv n M) (k : Nat) (t : Nat × Nat) (ht : tle t ((M.R k).te, (M.R k).ts)) : Iv n (M.tel k t) :=
  ⟨h.eqw, h.eqf, h.eqi, fun j hj => by
    show tle (up M.tl k (tmx (M.tl k) t) j) _
    by_cases e : j = k
    · subst e
      rw [up_same]
      exact tmx_cases _ _ (h.a j hj) ht
    · rw [up_ne _ _ _ e]
      exact h.a j hj, fun i hi j hj hw => by
    show tle (M.sn i) (up M.tl k (tmx (M.tl k) t) j)
    have q := h.b i hi j hj hw
    by_cases e : j = k
    · subst e
      rw [up_same]
      exact tle_trans q (tmx_l _ _)
    · rw [up_ne _ _ _ e]
      exact q, h.c, h.d⟩
/-- A new tag. -/
def Ms.tag (M : Ms) (t : Nat × Nat) : Ms := { M with ns := M.ns + 1, sn := up M.sn M.ns t }
def Ms.row (M : Ms) : Ms := { M with nw := M.nw + 1, wh := up M.wh M.nw (fun _ => false) }
theorem Iv.tag {n : Nat} {M : Ms} (h : Iv n M) (t : Nat × Nat) : Iv n (M.tag t).row := by
  have hw : ∀ i k, i < M.ns + 1 → (up M.wh M.nw (fun _ => false)) i k = true → i < M.ns ∧ M.wh i k = true := fun i k hi e => by
    by_cases q : i = M.nw
    · subst q
      rw [up_same] at e
      cases e
    · rw [up_ne _ _ _ q] at e
      have := h.eqw
      exact ⟨by omega, e⟩
  have hs : ∀ i, i < M.ns → (up M.sn M.ns t) i = M.sn i := fun i hi => up_ne _ _ _ (by omega)
  refine ⟨congrArg (· + 1) h.eqw, h.eqf, h.eqi, h.a, fun i hi k hk e => ?_, h.c, fun i hi e he k hk e1 e2 e3 => ?_⟩
  · obtain ⟨a, b⟩ := hw i k hi e
    show tle ((up M.sn M.ns t) i) _
    rw [hs i a]
    exact h.b i a k hk b
  · obtain ⟨a, b⟩ := hw i k hi e1
    have e3' : ((up M.sn M.ns t) i).1 < M.ep e := e3
    show tle ((up M.sn M.ns t) i) _
    rw [hs i a] at e3' ⊢
    exact h.d i a e he k hk b e2 e3'
def Ms.mark (M : Ms) (at' k : Nat) : Ms := { M with wh := up M.wh at' (up (M.wh at') k true) }
theorem Iv.mark {n : Nat} {M : Ms} (h : Iv n M) (at' k : Nat) (hb : tle (M.sn at') (M.tl k)) (hc : ∀ e, e < M.ne → M.fr e k = true → M.ep e ≤ (M.sn at').1) : Iv n (M.mark at' k) := by
  have hw : ∀ i j, (up M.wh at' (up (M.wh at') k true)) i j = true → M.wh i j = true ∨ (i = at' ∧ j = k) := fun i j e => by
    by_cases q : i = at'
    · subst q
      rw [up_same] at e
      by_cases q2 : j = k
      · exact .inr ⟨rfl, q2⟩
      · rw [up_ne _ _ _ q2] at e
        exact .inl e
    · rw [up_ne _ _ _ q] at e
      exact .inl e
  refine ⟨h.eqw, h.eqf, h.eqi, h.a, fun i hi j hj e => ?_, h.c, fun i hi e he j hj e1 e2 e3 => ?_⟩
  · rcases hw i j e with q | ⟨rfl, rfl⟩
    · exact h.b i hi j hj q
    · exact hb
  · rcases hw i j e1 with q | ⟨rfl, rfl⟩
    · exact h.d i hi e he j hj q e2 e3
    · exact absurd e3 (by have := hc e he e2; show ¬ (M.sn i).1 < M.ep e; omega)
/-- A new epoch. -/
def Ms.epo (M : Ms) (E : Nat) : Ms := { M with ne := M.ne + 1, ep := up M.ep M.ne E }
def Ms.frw (M : Ms) : Ms := { M with nf := M.nf + 1, fr := up M.fr M.nf (fun _ => false) }
def Ms.wit (M : Ms) : Ms := { M with ni := M.ni + 1, wi := up M.wi M.ni (0, 0) }
theorem Iv.epo {n : Nat} {M : Ms} (h : Iv n M) (E : Nat) : Iv n ((M.epo E).frw).wit := by
  have hw : ∀ i k, i < M.ne + 1 → (up M.fr M.nf (fun _ => false)) i k = true → i < M.ne ∧ M.fr i k = true := fun i k hi e => by
    by_cases q : i = M.nf
    · subst q
      rw [up_same] at e
      cases e
    · rw [up_ne _ _ _ q] at e
      have := h.eqf
      exact ⟨by omega, e⟩
  have hs : ∀ i, i < M.ne → (up M.ep M.ne E) i = M.ep i := fun i hi => up_ne _ _ _ (by omega)
  have ht : ∀ i, i < M.ne → (up M.wi M.ni (0, 0)) i = M.wi i := fun i hi => up_ne _ _ _ (by have := h.eqi; omega)
  refine ⟨h.eqw, congrArg (· + 1) h.eqf, congrArg (· + 1) h.eqi, h.a, h.b, fun e he k hk q => ?_, fun i hi e he k hk e1 e2 e3 => ?_⟩
  · obtain ⟨a, b⟩ := hw e k he q
    show (up M.ep M.ne E) e ≤ _
    rw [hs e a]
    exact h.c e a k hk b
  · obtain ⟨a, b⟩ := hw e k he e2
    have e3' : (M.sn i).1 < (up M.ep M.ne E) e := e3
    show tle _ ((up M.wi M.ni (0, 0)) e)
    rw [hs e a] at e3'
    rw [ht e a]
    exact h.d i hi e a k hk e1 b e3'
def Ms.prm (M : Ms) (at' k : Nat) : Ms := { M with fr := up M.fr at' (up (M.fr at') k true) }
def Ms.wth (M : Ms) (at' : Nat) (t : Nat × Nat) : Ms := { M with wi := up M.wi at' (tmx (M.wi at') t) }
theorem Iv.prm {n : Nat} {M : Ms} (h : Iv n M) (at' k : Nat) (hk : k < n) (hp : M.ep at' ≤ (M.R k).p) : Iv n ((M.prm at' k).wth at' ((M.R k).te, (M.R k).ts)) := by
  have hw : ∀ i j, (up M.fr at' (up (M.fr at') k true)) i j = true → M.fr i j = true ∨ (i = at' ∧ j = k) := fun i j e => by
    by_cases q : i = at'
    · subst q
      rw [up_same] at e
      by_cases q2 : j = k
      · exact .inr ⟨rfl, q2⟩
      · rw [up_ne _ _ _ q2] at e
        exact .inl e
    · rw [up_ne _ _ _ q] at e
      exact .inl e
  have hge : ∀ e, tle (M.wi e) ((up M.wi at' (tmx (M.wi at') ((M.R k).te, (M.R k).ts))) e) := fun e => by
    by_cases q : e = at'
    · subst q
      rw [up_same]
      exact tmx_l _ _
    · rw [up_ne _ _ _ q]
      exact tle_refl _
  refine ⟨h.eqw, h.eqf, h.eqi, h.a, h.b, fun e he j hj q => ?_, fun i hi e he j hj e1 e2 e3 => ?_⟩
  · rcases hw e j q with q | ⟨rfl, rfl⟩
    · exact h.c e he j hj q
    · exact hp
  · rcases hw e j e2 with q | ⟨rfl, rfl⟩
    · exact tle_trans (h.d i hi e he j hj e1 q e3) (hge e)
    · refine tle_trans (tle_trans (h.b i hi j hj e1) (h.a j hj)) ?_
      show tle _ ((up M.wi e (tmx (M.wi e) ((M.R j).te, (M.R j).ts))) e)
      rw [up_same]
      exact tmx_r _ _
end Go.Proofs.Ytfmndfgdchhaeaa

/- Lists side by side, of elements of one cell: what an append of one leaves of all others. -/
namespace Go.Proofs.Ytfmndfgdchhaeaa
open Go.RowKit
set_option maxRecDepth 100000

/-- Cell j of block b, a row of elements of type e, holds x. -/
def Cel (e : TypeId) (w : World) (b j : Nat) (x : Value) : Prop := ∃ cur, w.heap[b]? = some (.cells cur e (0, 0)) ∧ cur[j]? = some x
theorem Cel.cell {e : TypeId} {w : World} {b j : Nat} {x : Value} (h : Cel e w b j x) : w.cell? ⟨b, j, none⟩ = some x := by
  obtain ⟨cur, h1, h2⟩ := h
  simp [World.cell?, h1, h2]
theorem Cel.lt {e : TypeId} {w : World} {b j : Nat} {x : Value} (h : Cel e w b j x) : b < w.heap.size := by
  obtain ⟨cur, h1, _⟩ := h
  exact (Array.getElem?_eq_some_iff.1 h1).1
theorem Cel.of_block {e : TypeId} {w w' : World} {b j : Nat} {x : Value} (h : Cel e w b j x) (hb : w'.heap[b]? = w.heap[b]?) : Cel e w' b j x := by
  obtain ⟨cur, h1, h2⟩ := h
  exact ⟨cur, hb.trans h1, h2⟩
theorem Cel.apart {e e' : TypeId} {w : World} {b b' j j' : Nat} {x x' : Value} (h : Cel e w b j x) (h' : Cel e' w b' j' x') (hne : e ≠ e') : b ≠ b' := by
  rintro rfl
  obtain ⟨cur, h1, _⟩ := h
  obtain ⟨cur', h1', _⟩ := h'
  rw [h1] at h1'
  simp only [Option.some.injEq, Obj.cells.injEq] at h1'
  exact hne h1'.2.1
theorem fown_cel {w : World} {K : Nat} {e : TypeId} {v : Value} {n : Nat} {xs : List Value} (h : w.ownsRow K e 1 v n xs) {b j : Nat} {x : Value} (hb : v.ownBlock = some b) (hx : xs[j]? = some x) : Cel e w b j x := by
  rcases h.2 with ⟨rfl, _⟩ | ⟨g, cap, cur, rfl, _, hq, _, _, _, htake⟩
  · cases hb
  · obtain rfl : g = b := by simpa [Value.ownBlock] using hb
    refine ⟨cur, hq, ?_⟩
    have hj : j < xs.length := (List.getElem?_eq_some_iff.1 hx).1
    rw [← htake] at hx
    rw [List.getElem?_take] at hx
    split at hx
    · simpa using hx
    · cases hx
/-- The block of a row that is not empty. -/
theorem fown_some {w : World} {K : Nat} {e : TypeId} {v : Value} {n : Nat} {xs : List Value} (h : w.ownsRow K e 1 v n xs) (hn : 0 < n) : ∃ b c, v = .slice (some ⟨b, 0, none⟩) n c ∧ v.ownBlock = some b ∧ K ≤ b ∧ b < w.heap.size ∧ n ≤ c := by
  rcases h.2 with ⟨_, rfl⟩ | ⟨g, cap, cur, rfl, hk, hq, hc, _⟩
  · omega
  · exact ⟨g, cap, rfl, rfl, hk, (Array.getElem?_eq_some_iff.1 hq).1, hc⟩
theorem fown_slice {w : World} {K : Nat} {e : TypeId} {v : Value} {n : Nat} {xs : List Value} (h : w.ownsRow K e 1 v n xs) : ∃ a c, v = .slice a n c ∧ n ≤ c ∧ (∀ b, v.ownBlock = some b → a = some ⟨b, 0, none⟩) := by
  rcases h.2 with ⟨rfl, rfl⟩ | ⟨g, cap, cur, rfl, _, _, hc, _⟩
  · exact ⟨none, 0, rfl, Nat.le_refl _, fun b h => by cases h⟩
  · exact ⟨_, cap, rfl, hc, fun b h => by simp [Value.ownBlock] at h; rw [h]⟩
theorem fown_apart {w : World} {K K' : Nat} {e e' : TypeId} {v v' : Value} {n n' : Nat} {xs xs' : List Value} (h : w.ownsRow K e 1 v n xs) (h' : w.ownsRow K' e' 1 v' n' xs') (hne : e ≠ e') : ∀ b, v.ownBlock = some b → v'.ownBlock ≠ some b := by
  intro b hb hb'
  rcases h.2 with ⟨rfl, _⟩ | ⟨g, cap, cur, rfl, _, hq, _⟩
  · cases hb
  · rcases h'.2 with ⟨rfl, _⟩ | ⟨g', cap', cur', rfl, _, hq', _⟩
    · cases hb'
    · obtain rfl : g = b := by simpa [Value.ownBlock] using hb
      obtain rfl : g' = g := by simpa [Value.ownBlock] using hb'
      rw [hq] at hq'
      simp only [Option.some.injEq, Obj.cells.injEq] at hq'
      exact hne hq'.2.1
theorem fown_block {w w' : World} {K : Nat} {e : TypeId} {v : Value} {n : Nat} {xs : List Value} (h : w.ownsRow K e 1 v n xs) (hb : ∀ b, v.ownBlock = some b → w'.heap[b]? = w.heap[b]?) : w'.ownsRow K e 1 v n xs := by
  refine ⟨h.1, ?_⟩
  rcases h.2 with ⟨rfl, h0⟩ | ⟨g, cap, cur, rfl, hk, hq, hr⟩
  · exact .inl ⟨rfl, h0⟩
  · exact .inr ⟨g, cap, cur, rfl, hk, (hb g rfl).trans hq, hr⟩

/-- From w to w' only the block g has been written, from its cell n on, and the block f; all else that was there is as it was. -/
structure Grew (e : TypeId) (w w' : World) (g : Option Nat) (n : Nat) (f : Option Nat) : Prop where
  os : w'.os = w.os
  tape : w'.tape = w.tape
  output : w'.output = w.output
  size : w.heap.size ≤ w'.heap.size
  block : ∀ b, b < w.heap.size → g ≠ some b → f ≠ some b → w'.heap[b]? = w.heap[b]?
  cell : ∀ b j x, g = some b → f ≠ some b → j < n → Cel e w b j x → Cel e w' b j x

theorem Grew.refl (e : TypeId) (w : World) (g : Option Nat) (n : Nat) (f : Option Nat) : Grew e w w g n f := ⟨rfl, rfl, rfl, Nat.le_refl _, fun _ _ _ _ => rfl, fun _ _ _ _ _ _ h => h⟩

theorem Grew.of_below {w w' : World} (h : Below w.heap.size w w') (e : TypeId) (g : Option Nat) (n : Nat) (f : Option Nat) : Grew e w w' g n f :=
  ⟨h.os, h.tape, h.output, h.size, fun b hb _ _ => h.block b hb, fun b _ _ _ _ _ hc => hc.of_block (h.block b hc.lt)⟩

theorem Grew.below {e : TypeId} {w w' : World} {g : Option Nat} {n : Nat} {f : Option Nat} (h : Grew e w w' g n f) (K : Nat) (hK : K ≤ w.heap.size) (hg : ∀ b, g = some b → K ≤ b) (hf : ∀ b, f = some b → K ≤ b) : Below K w w' :=
  ⟨h.os, h.tape, h.output, h.size, fun b hb => h.block b (by omega) (fun e => by have := hg b e; omega) (fun e => by have := hf b e; omega)⟩

/-- A row elsewhere is as it was. -/
theorem Grew.own {e : TypeId} {w w' : World} {g f : Option Nat} {m : Nat} (k : Grew e w w' g m f) {K : Nat} {e' : TypeId} {v : Value} {n : Nat} {xs : List Value} (h : w.ownsRow K e' 1 v n xs) (hg : ∀ b, v.ownBlock = some b → g ≠ some b) (hf : ∀ b, v.ownBlock = some b → f ≠ some b) : w'.ownsRow K e' 1 v n xs :=
  fown_block h (fun b hb => k.block b (h.lt b hb).2 (hg b hb) (hf b hb))

/-- One more step: the list under way lies where it began, or in new memory; so does the other row. -/
theorem Grew.trans {e : TypeId} {w w1 w2 : World} {g g1 f f1 : Option Nat} {n n1 : Nat} (h : Grew e w w1 g n f) (k : Grew e w1 w2 g1 n1 f1) (hg : g1 = g ∧ n ≤ n1 ∨ ∀ b, g1 = some b → w.heap.size ≤ b) (hf : f1 = f ∨ ∀ b, f1 = some b → w.heap.size ≤ b) : Grew e w w2 g n f := by
  have ne1 : ∀ b, b < w.heap.size → g ≠ some b → g1 ≠ some b := fun b hb hn e => by
    rcases hg with ⟨rfl, _⟩ | hg
    · exact hn e
    · have := hg b e; omega
  have nf1 : ∀ b, b < w.heap.size → f ≠ some b → f1 ≠ some b := fun b hb hn e => by
    rcases hf with rfl | hf
    · exact hn e
    · have := hf b e; omega
  refine ⟨k.os.trans h.os, k.tape.trans h.tape, k.output.trans h.output, Nat.le_trans h.size k.size, fun b hb h1 h2 => ?_, fun b j x eg hfb hj hc => ?_⟩
  · rw [k.block b (Nat.lt_of_lt_of_le hb h.size) (ne1 b hb h1) (nf1 b hb h2)]
    exact h.block b hb h1 h2
  · have hb := hc.lt
    have hc1 := h.cell b j x eg hfb hj hc
    by_cases e1 : g1 = some b
    · rcases hg with ⟨_, hn⟩ | hg
      · exact k.cell b j x e1 (nf1 b hb hfb) (by omega) hc1
      · have := hg b e1; omega
    · exact hc1.of_block (k.block b (Nat.lt_of_lt_of_le hb h.size) e1 (nf1 b hb hfb))

/-- append of one, whatever the element's type. -/
theorem fapp_one {P : Program} {w : World} {K n bytes : Nat} {v z y : Value} {xs : List Value} {t ty e : TypeId} (ht : P.underlying t = some (.slice e)) (hinfo : (P.info? e).map (fun i => (i.zero, i.size, i.bytes)) = some (some z, 1, bytes)) (hzc : z.cells.size = 1)
    (h : w.ownsRow K e 1 v n xs) (hy : y.oneCell' = true) (hb : ((n + 1) + (n + 1) / 4 + 192) * bytes ≤ 281474976710656) (hn : n + 1 ≤ 140737488355328) (hK : K ≤ w.heap.size) :
    ∃ v' w', (Builtin.append_ #[t, t] ty #[v, .slice (some ⟨w.heap.size, 0, none⟩) 1 1]).run P (w.alloc (.cells #[y] e)) = .ok v' w' ∧ w'.ownsRow K e 1 v' (n + 1) (xs ++ [y]) ∧ Grew e w w' v.ownBlock n none ∧ (v'.ownBlock = v.ownBlock ∨ ∃ b, v'.ownBlock = some b ∧ w.heap.size ≤ b) := by
  obtain ⟨i0, hi, hz0, hz1, hz2⟩ : ∃ i, P.info? e = some i ∧ i.zero = some z ∧ i.size = 1 ∧ i.bytes = bytes := by
    obtain ⟨i, hi, hh⟩ := Option.map_eq_some_iff.1 hinfo
    simp only [Prod.mk.injEq] at hh
    exact ⟨i, hi, hh.1, hh.2.1, hh.2.2⟩
  have hnews : ∀ j u, [y][j]? = some u → (w.alloc (.cells #[y] e)).cell? ((⟨w.heap.size, 0, none⟩ : Addr).add j) = some u := fun j u hj => by
    obtain ⟨hj1, hj2⟩ := List.getElem?_eq_some_iff.1 hj
    have : j = 0 := by simpa using hj1
    subst this
    rw [← hj2]
    simp [Addr.add]
  have hwf : ∀ u, u ∈ [y] → u.oneCell' = true := fun u hu => by rw [show u = y by simpa using hu]; exact hy
  have hml : maxLen = 9223372036854775807 := rfl
  have ho := h.alloc (.cells #[y] e)
  have hz : (w.alloc (.cells #[y] e)).heap.size = w.heap.size + 1 := by simp
  obtain ⟨v', w', h1, h2, h3, _⟩ := run_append_own_wide (P := P) (w.alloc (.cells #[y] e)) K t ty e i0 z 1 bytes ht hi hz0 hz1 hz2 hzc (by decide) v n xs ho ⟨w.heap.size, 0, none⟩ 1 1 [y] rfl hnews hwf (by omega) hb (by omega)
  have hlt := h.lt
  refine ⟨v', w', h1, h2, ⟨h3.os, h3.tape, h3.output, by have := h3.size; omega, fun b hb hg _ => ?_, fun b j x hg _ hj hc => ?_⟩, ?_⟩
  · rw [h3.block b (by omega) (fun e => hg e.symm)]
    exact Below.heap_alloc _ _ _ hb
  · rcases ho.2 with ⟨rfl, hn0⟩ | ⟨q, cap, cur, rfl, hbg, hq, hnc, hcm, hcs, htake⟩
    · omega
    · obtain rfl : q = b := by simpa [Value.ownBlock] using hg
      have hqb := (hlt q rfl).2
      have hxs : xs[j]? = some x := by
        rw [← h.cellAt j (by omega)]
        exact hc.cell
      by_cases hroom : n + 1 ≤ cap
      · have hr2 := run_append_room (P := P) (w.alloc (.cells #[y] e)) t ty e i0 ht hi q n cap cur hq ⟨w.heap.size, 0, none⟩ 1 1 [y] (by rw [hz1]; rfl) hnews hwf hroom (by rw [hz1, hcs]; show n * 1 + 1 ≤ cap * 1; omega)
        rw [hr2] at h1
        injection h1 with e1 e2
        subst e1
        exact fown_cel h2 rfl (by rw [List.getElem?_append_left (by rw [h.1]; omega)]; exact hxs)
      · have hr2 := run_append_grow (P := P) (w.alloc (.cells #[y] e)) t ty e i0 z ht hi hz0 ⟨q, 0, none⟩ n cap xs (by rw [hz1]; exact ho.1) (ho.cells (g := q) rfl) ⟨w.heap.size, 0, none⟩ 1 1 [y] (by rw [hz1]; rfl) hnews (by omega) (by omega) (by rw [hz2]; exact growslice_fits_wide (by omega) hb)
        rw [hr2] at h1
        injection h1 with e1 e2
        subst e2
        refine (hc.of_block (Below.heap_alloc _ (.cells #[y] e) _ hqb)).of_block ?_
        exact heap_alloc_old (w.alloc (.cells #[y] e)).drew _ (by simp; omega)
  · rcases ho.2 with ⟨rfl, hn0⟩ | ⟨q, cap, cur, rfl, hbg, hq, hnc, hcm, hcs, htake⟩
    · subst hn0
      have hr2 := run_append_nil (P := P) (w.alloc (.cells #[y] e)) t ty e i0 z ht hi hz0 ⟨w.heap.size, 0, none⟩ 1 1 [y] (by rw [hz1]; rfl) hnews (by omega) (by omega) (by rw [hz2]; omega)
      rw [hr2] at h1
      injection h1 with e1 e2
      subst e1
      exact .inr ⟨_, rfl, by show w.heap.size ≤ (w.alloc (.cells #[y] e)).heap.size; omega⟩
    · by_cases hroom : n + 1 ≤ cap
      · have hr2 := run_append_room (P := P) (w.alloc (.cells #[y] e)) t ty e i0 ht hi q n cap cur hq ⟨w.heap.size, 0, none⟩ 1 1 [y] (by rw [hz1]; rfl) hnews hwf hroom (by rw [hz1, hcs]; show n * 1 + 1 ≤ cap * 1; omega)
        rw [hr2] at h1
        injection h1 with e1 e2
        subst e1
        exact .inl rfl
      · have hr2 := run_append_grow (P := P) (w.alloc (.cells #[y] e)) t ty e i0 z ht hi hz0 ⟨q, 0, none⟩ n cap xs (by rw [hz1]; exact ho.1) (ho.cells (g := q) rfl) ⟨w.heap.size, 0, none⟩ 1 1 [y] (by rw [hz1]; rfl) hnews (by omega) (by omega) (by rw [hz2]; exact growslice_fits_wide (by omega) hb)
        rw [hr2] at h1
        injection h1 with e1 e2
        subst e1
        exact .inr ⟨_, rfl, by show w.heap.size ≤ (w.alloc (.cells #[y] e)).heap.size; omega⟩
end Go.Proofs.Ytfmndfgdchhaeaa

/- Whose each block is: a colour for each block; rows and lists by their colour. -/
namespace Go.Proofs.Ytfmndfgdchhaeaa
open Go.RowKit
set_option maxRecDepth 100000
set_option maxRecDepth 100000

/-- A step that turns nothing but what is of colour x (and keeps the colours that were). -/
structure Ch (x : Nat) (O O' : Nat → Nat) (w w' : World) : Prop where
  os : w'.os = w.os
  tape : w'.tape = w.tape
  output : w'.output = w.output
  size : w.heap.size ≤ w'.heap.size
  col : ∀ k, k < w.heap.size → O' k = O k
  block : ∀ k, k < w.heap.size → O k ≠ x → w'.heap[k]? = w.heap[k]?
section
variable {x y c : Nat} {O O' O'' : Nat → Nat} {w w' w'' : World}
theorem Ch.refl : Ch x O O w w := ⟨rfl, rfl, rfl, Nat.le_refl _, fun _ _ => rfl, fun _ _ _ => rfl⟩
theorem Ch.since (h : w.Since w.heap.size w') : Ch x O O w w' := ⟨h.os, h.tape, h.output, h.size, fun _ _ => rfl, fun k hk _ => h.block k hk⟩
theorem Ch.trans (h : Ch x O O' w w') (k : Ch x O' O'' w' w'') : Ch x O O'' w w'' :=
  ⟨k.os.trans h.os, k.tape.trans h.tape, k.output.trans h.output, Nat.le_trans h.size k.size, fun i hi => (k.col i (Nat.lt_of_lt_of_le hi h.size)).trans (h.col i hi), fun i hi hn => (k.block i (Nat.lt_of_lt_of_le hi h.size) (by rw [h.col i hi]; exact hn)).trans (h.block i hi hn)⟩
theorem Ch.sinceL (h : w.Since w.heap.size w') (k : Ch x O O' w' w'') : Ch x O O' w w'' := (Ch.since h).trans k
/-- What is of no colour stands since the beginning. -/
theorem Ch.base {w0 : World} (h0 : w0.Since w0.heap.size w) (hO : ∀ k, k < w0.heap.size → O k = 0) (hx : x ≠ 0) (h : Ch x O O' w w') : w0.Since w0.heap.size w' ∧ ∀ k, k < w0.heap.size → O' k = 0 :=
  ⟨⟨h.os.trans h0.os, h.tape.trans h0.tape, h.output.trans h0.output, Nat.le_trans h0.size h.size, fun k hk => (h.block k (Nat.lt_of_lt_of_le hk h0.size) (by rw [hO k hk]; exact fun e => hx e.symm)).trans (h0.block k hk)⟩, fun k hk => (h.col k (Nat.lt_of_lt_of_le hk h0.size)).trans (hO k hk)⟩
/-- A row of a colour. -/
def RowC (O : Nat → Nat) (c : Nat) (w : World) (b t n : Nat) (f : Nat → Value) : Prop := w.rowIs b t n f ∧ O b = c
theorem RowC.keep {b t n : Nat} {f : Nat → Value} (h : RowC O c w b t n f) (k : Ch x O O' w w') (hx : c ≠ x) : RowC O' c w' b t n f :=
  ⟨h.1.of_block (k.block b h.1.lt (by rw [h.2]; exact hx)), (k.col b h.1.lt).trans h.2⟩
theorem Ch.set {b : Nat} (hb : O b = x) (i : Nat) (v : Value) : Ch x O O w (w.setCell ⟨b, i, none⟩ v) :=
  ⟨rfl, rfl, rfl, by simp [World.setCell], fun _ _ => rfl, fun k _ hn => Below.heap_setCell _ _ _ _ (fun e => hn (by rw [e]; exact hb))⟩
theorem Ch.sets {b : Nat} (hb : O b = x) : ∀ (vs : List Value) (o : Nat) (w : World), Ch x O O w (w.setCells b o vs)
  | [], _, _ => Ch.refl
  | v :: vs, o, _ => (Ch.set hb o v).trans (Ch.sets hb vs (o + 1) _)
theorem RowC.set {b t n : Nat} {f : Nat → Value} (h : RowC O c w b t n f) (i : Nat) (v : Value) : RowC O c (w.setCell ⟨b, i, none⟩ v) b t n (fun j => if j = i then v else f j) := ⟨h.1.set i v, h.2⟩
/-- A list of a colour: its cells, up to its length. -/
def Li (O : Nat → Nat) (c : Nat) (w : World) (t sz : Nat) (v : Value) (n : Nat) (f : Nat → Value) : Prop := w.ownsRow 0 t sz v n ((List.range (n * sz)).map f) ∧ ∀ k, v.ownBlock = some k → O k = c
variable {t sz n : Nat} {v : Value} {f g : Nat → Value}
theorem Li.keep (h : Li O c w t sz v n f) (k : Ch x O O' w w') (hx : c ≠ x) : Li O' c w' t sz v n f := by
  obtain ⟨⟨h1, h2⟩, h3⟩ := h
  rcases h2 with ⟨hv, hn⟩ | ⟨b, cap, cur, hv, h4, h5, h6⟩
  · exact ⟨⟨h1, .inl ⟨hv, hn⟩⟩, fun b hb => by rw [hv] at hb; cases hb⟩
  · have hlt : b < w.heap.size := (Array.getElem?_eq_some_iff.1 h5).1
    have hc := h3 b (by rw [hv]; rfl)
    exact ⟨⟨h1, .inr ⟨b, cap, cur, hv, h4, (k.block b hlt (by rw [hc]; exact hx)).trans h5, h6⟩⟩, fun b' hb => by
      rw [hv] at hb
      obtain rfl : b = b' := Option.some.inj hb
      exact (k.col b hlt).trans hc⟩
theorem Li.nil (O : Nat → Nat) (c : Nat) (w : World) (t sz : Nat) (f : Nat → Value) : Li O c w t sz (.slice none 0 0) 0 f := ⟨⟨by simp, .inl ⟨rfl, rfl⟩⟩, fun k hk => by cases hk⟩
theorem Li.congr (h : Li O c w t sz v n f) (e : ∀ j, j < n * sz → f j = g j) : Li O c w t sz v n g := by
  have : (List.range (n * sz)).map f = (List.range (n * sz)).map g := List.map_congr_left fun j hj => e j (List.mem_range.1 hj)
  exact ⟨this ▸ h.1, h.2⟩
theorem Li.form (h : Li O c w t sz v n f) : ∃ a cap, v = .slice a n cap := by
  rcases h.1.2 with ⟨hv, hn⟩ | ⟨b, cap, _, hv, _⟩
  · exact ⟨none, 0, by rw [hv, hn]⟩
  · exact ⟨_, cap, hv⟩
theorem Li.at' (h : Li O c w t sz v n f) (hn : 0 < n) : ∃ b cap F, v = .slice (some ⟨b, 0, none⟩) n cap ∧ n ≤ cap ∧ cap ≤ maxLen ∧ RowC O c w b t (cap * sz) F ∧ ∀ j, j < n * sz → F j = f j := by
  rcases h.1.2 with ⟨_, h0⟩ | ⟨b, cap, cur, hv, _, h5, h6, h7, h8, h9⟩
  · omega
  · refine ⟨b, cap, fun i => cur.getD i undef, hv, h6, h7, ⟨⟨cur, h5, h8, fun i hi => ?_⟩, h.2 b (by rw [hv]; rfl)⟩, fun j hj => ?_⟩
    · show cur[i]? = some (cur.getD i undef)
      rw [Array.getD_eq_getD_getElem?, Array.getElem?_eq_getElem (by omega)]
      rfl
    · have hjc : j < cur.size := by rw [h8]; exact Nat.lt_of_lt_of_le hj (Nat.mul_le_mul_right _ h6)
      have e : (cur.toList.take (n * sz))[j]? = ((List.range (n * sz)).map f)[j]? := by rw [h9]
      rw [List.getElem?_take_of_lt hj, List.getElem?_map, List.getElem?_range hj, Array.getElem?_toList, Array.getElem?_eq_getElem hjc] at e
      show cur.getD j undef = f j
      rw [Array.getD_eq_getD_getElem?, Array.getElem?_eq_getElem hjc]
      exact Option.some.inj e
theorem Li.of_row {b cap : Nat} {F : Nat → Value} (h : RowC O c w b t (cap * sz) F) (hn : n ≤ cap) (hm : cap ≤ maxLen) (e : ∀ j, j < n * sz → F j = f j) : Li O c w t sz (.slice (some ⟨b, 0, none⟩) n cap) n f := by
  obtain ⟨⟨cur, h5, h8, h9⟩, hc⟩ := h
  refine ⟨⟨by simp, .inr ⟨b, cap, cur, rfl, Nat.zero_le _, h5, hn, hm, h8, ?_⟩⟩, fun k hk => by
    obtain rfl : b = k := Option.some.inj hk
    exact hc⟩
  apply List.ext_getElem?
  intro j
  by_cases hj : j < n * sz
  · have hjc : j < cap * sz := Nat.lt_of_lt_of_le hj (Nat.mul_le_mul_right _ hn)
    rw [List.getElem?_take_of_lt hj, List.getElem?_map, List.getElem?_range hj, Array.getElem?_toList, h9 j hjc, e j hj]
    rfl
  · rw [List.getElem?_eq_none (by simp; omega), List.getElem?_eq_none (by simp; omega)]
/-- A cell of a list is written. -/
theorem Li.set (h : Li O c w t sz v n f) (hn : 0 < n) (b cap : Nat) (hv : v = .slice (some ⟨b, 0, none⟩) n cap) (i : Nat) (u : Value) : Li O c (w.setCell ⟨b, i, none⟩ u) t sz v n (fun j => if j = i then u else f j) := by
  obtain ⟨b', cap', F, hv', h1, h2, h3, h4⟩ := h.at' hn
  rw [hv] at hv'
  injection hv' with e1 _ e2
  obtain rfl : b = b' := congrArg Addr.block (Option.some.inj e1)
  subst e2
  rw [hv]
  exact Li.of_row (h3.set i u) h1 h2 (fun j hj => by
    show (if j = i then u else F j) = (if j = i then u else f j)
    rw [h4 j hj])
/-- One element is appended. -/
theorem Li.app {P : Program} {bytes : Nat} {z : Value} {ty : TypeId} (ht : P.underlying ty = some (.slice t)) (hinfo : (P.info? t).map (fun i => (i.zero, i.size, i.bytes)) = some (some z, sz, bytes)) (hzc : z.cells.size = sz) (hsz : 0 < sz)
    (h : Li O c w t sz v n f) (ys : List Value) (hy : ys.length = sz) (h1 : ∀ u ∈ ys, u.oneCell' = true) (hb : (n + 1) * bytes ≤ 140737488355328) (hn : n + 1 ≤ 140737488355328) :
    ∃ v' w', (Builtin.append_ #[ty, ty] ty #[v, .slice (some ⟨w.heap.size, 0, none⟩) 1 1]).run P (w.alloc (.cells ys.toArray t)) = .ok v' w' ∧ Ch c O (fun k => if k < w.heap.size then O k else c) w w' ∧ Li (fun k => if k < w.heap.size then O k else c) c w' t sz v' (n + 1) (fun j => if j < n * sz then f j else ys.getD (j - n * sz) undef) := by
  obtain ⟨i0, hi, hz0, hz1, hz2⟩ : ∃ i, P.info? t = some i ∧ i.zero = some z ∧ i.size = sz ∧ i.bytes = bytes := by
    obtain ⟨i, hi, hh⟩ := Option.map_eq_some_iff.1 hinfo
    simp only [Prod.mk.injEq] at hh
    exact ⟨i, hi, hh.1, hh.2.1, hh.2.2⟩
  have hnews : ∀ j u, ys[j]? = some u → (w.alloc (.cells ys.toArray t)).cell? ((⟨w.heap.size, 0, none⟩ : Addr).add j) = some u := fun j u hj => by
    have e : ((⟨w.heap.size, 0, none⟩ : Addr).add j) = ⟨w.heap.size, j, none⟩ := by rw [Addr.add_mid, Nat.zero_add]
    rw [e]
    refine (World.cell?_alloc_at (w := w) _ _ _ j rfl).trans ?_
    rw [List.getElem?_toArray]
    exact hj
  have hml : maxLen = 9223372036854775807 := rfl
  obtain ⟨v', w', e1, e2, e3, _, e5⟩ := run_append_own_at (P := P) (w.alloc (.cells ys.toArray t)) 0 ty ty t i0 _ sz bytes ht hi hz0 hz1 hz2 hzc hsz v n _ (World.ownsRow.alloc h.1 _) ⟨w.heap.size, 0, none⟩ 1 1 ys (by omega) hnews h1 (by omega) hb (Nat.zero_le _)
  have hsz' : (w.alloc (.cells ys.toArray t)).heap.size = w.heap.size + 1 := by simp
  have hcol : ∀ k, v.ownBlock = some k → k < w.heap.size := fun k hk => by
    rcases h.1.2 with ⟨hv, _⟩ | ⟨b, cap, cur, hv, _, h5, _⟩
    · rw [hv] at hk; cases hk
    · rw [hv] at hk
      obtain rfl : b = k := Option.some.inj hk
      exact (Array.getElem?_eq_some_iff.1 h5).1
  refine ⟨v', w', e1, ⟨e3.os, e3.tape, e3.output, by have := e3.size; omega, fun k hk => if_pos hk, fun k hk hne => ?_⟩, ?_, fun k hk => ?_⟩
  · exact (e3.block k (by omega) (fun e => hne (h.2 k e.symm))).trans (Below.heap_alloc _ _ _ hk)
  · have e : (List.range ((n + 1) * sz)).map (fun j => if j < n * sz then f j else ys.getD (j - n * sz) undef) = (List.range (n * sz)).map f ++ ys := by
      apply List.ext_getElem?
      intro j
      have hm : (n + 1) * sz = n * sz + sz := Nat.succ_mul _ _
      by_cases hj : j < n * sz
      · rw [List.getElem?_append_left (by simpa using hj), List.getElem?_map, List.getElem?_map, List.getElem?_range hj, List.getElem?_range (by omega)]
        show some (if j < n * sz then f j else _) = some (f j)
        rw [if_pos hj]
      · rw [List.getElem?_append_right (by simpa using hj)]
        by_cases hj2 : j < n * sz + sz
        · rw [List.getElem?_map, List.getElem?_range (by omega)]
          show some (if j < n * sz then f j else _) = _
          rw [if_neg hj, List.length_map, List.length_range, List.getD_eq_getElem?_getD, List.getElem?_eq_getElem (show j - n * sz < ys.length by omega)]
          rfl
        · rw [List.getElem?_eq_none (by simp; omega), List.getElem?_eq_none (by simp; omega)]
    rw [e]
    exact e2
  · show (if k < w.heap.size then O k else c) = c
    rcases e5 with e5 | e5
    · rw [e5] at hk
      rw [if_pos (hcol k hk)]
      exact h.2 k hk
    · rw [e5] at hk
      have := Option.some.inj hk
      rw [if_neg (by omega)]
end
end Go.Proofs.Ytfmndfgdchhaeaa

/- ReplicaMeets: index, place, most. -/
namespace Go.Proofs.Ytfmndfgdchhaeaa
open Go.RowKit
set_option maxRecDepth 100000
set_option maxRecDepth 100000

def tagF (t : Nat → Nat × Nat) (j : Nat) : Value := if j % 2 = 0 then .int .u64 ((t (j / 2)).1 : Nat) else .int .u64 ((t (j / 2)).2 : Nat)
theorem tagF0 (t : Nat → Nat × Nat) (i : Nat) : tagF t (i * 2) = .int .u64 ((t i).1 : Nat) := by
  unfold tagF
  rw [if_pos (by omega), show i * 2 / 2 = i by omega]
theorem tagF1 (t : Nat → Nat × Nat) (i : Nat) : tagF t (i * 2 + 1) = .int .u64 ((t i).2 : Nat) := by
  unfold tagF
  rw [if_neg (by omega), show (i * 2 + 1) / 2 = i by omega]
theorem tagF_up (t : Nat → Nat × Nat) (k : Nat) (v : Nat × Nat) (j : Nat) : tagF (up t k v) j = if j = k * 2 + 1 then .int .u64 (v.2 : Nat) else if j = k * 2 then .int .u64 (v.1 : Nat) else tagF t j := by
  unfold tagF up
  by_cases h : j / 2 = k
  · by_cases h2 : j % 2 = 0
    · rw [if_pos h2, if_pos h, if_neg (by omega), if_pos (by omega)]
    · rw [if_neg h2, if_pos h, if_pos (by omega)]
  · rw [if_neg h, if_neg (show ¬ j = k * 2 + 1 by omega), if_neg (show ¬ j = k * 2 by omega)]
/-- The cells of one of a list of tags. -/
theorem li_tag {O : Nat → Nat} {c : Nat} {w : World} {v : Value} {n : Nat} {t : Nat → Nat × Nat} (h : Li O c w 37 2 v n (tagF t)) (i : Nat) (hi : i < n) : ∃ b cap, v = .slice (some ⟨b, 0, none⟩) n cap ∧ w.cell? ⟨b, i * 2, none⟩ = some (.int .u64 ((t i).1 : Nat)) ∧ w.cell? ⟨b, i * 2 + 1, none⟩ = some (.int .u64 ((t i).2 : Nat)) ∧ w.rangeAt b (i * 2) [.int .u64 ((t i).1 : Nat), .int .u64 ((t i).2 : Nat)] ∧ O b = c ∧ w.there b (i * 2) 2 := by
  obtain ⟨b, cap, F, hv, h1, h2, h3, h4⟩ := h.at' (by omega)
  have a0 : i * 2 < cap * 2 := by omega
  have a1 : i * 2 + 1 < cap * 2 := by omega
  have c0 : w.cell? ⟨b, i * 2, none⟩ = some (.int .u64 ((t i).1 : Nat)) := by rw [h3.1.cell a0, h4 _ (by omega), tagF0]
  have c1 : w.cell? ⟨b, i * 2 + 1, none⟩ = some (.int .u64 ((t i).2 : Nat)) := by rw [h3.1.cell a1, h4 _ (by omega), tagF1]
  refine ⟨b, cap, hv, c0, c1, fun j u hj => ?_, h3.2, ?_⟩
  · match j, hj with
    | 0, hj => rw [Nat.add_zero, c0]; exact hj
    | 1, hj => rw [c1]; exact hj
    | j + 2, hj => cases hj
  · intro j hj
    exact ⟨by rw [h3.1.cell (i := i * 2 + j) (by omega)]; rfl, h3.1.frozen _⟩
/-- A cell of a list of elements of one cell. -/
theorem li_cell {O : Nat → Nat} {c : Nat} {w : World} {t : Nat} {v : Value} {n : Nat} {f : Nat → Value} (h : Li O c w t 1 v n f) (i : Nat) (hi : i < n) : ∃ b cap, v = .slice (some ⟨b, 0, none⟩) n cap ∧ w.cell? ⟨b, i, none⟩ = some (f i) := by
  obtain ⟨b, cap, F, hv, h1, _, h3, h4⟩ := h.at' (by omega)
  exact ⟨b, cap, hv, by rw [h3.1.cell (by omega), h4 i (by omega)]⟩
theorem tag_boxC (w : World) (a b : Nat) : ∃ W, Hid (w.alloc (.cells #[.int .u64 (a : Nat), .int .u64 (b : Nat)] 37) = W) ∧ w.Since w.heap.size W ∧ W.cell? ⟨w.heap.size, 0, none⟩ = some (.int .u64 (a : Nat)) ∧ W.cell? ⟨w.heap.size, 1, none⟩ = some (.int .u64 (b : Nat)) ∧ w.heap.size < W.heap.size :=
  ⟨_, rfl, (World.Since.refl _ _).alloc (Nat.le_refl _) _, by simp, by simp, by simp⟩
/-- While a list of tags is searched. -/
structure IX (O : Nat → Nat) (c : Nat) (w : World) (v : Value) (n : Nat) (t : Nat → Nat × Nat) (tb E Q : Nat) (W : World) : Prop where
  s : w.Since w.heap.size W
  l : Li O c W 37 2 v n (tagF t)
  e : W.cell? ⟨tb, 0, none⟩ = some (.int .u64 (E : Nat))
  q : W.cell? ⟨tb, 1, none⟩ = some (.int .u64 (Q : Nat))
theorem IX.drewN {O : Nat → Nat} {c : Nat} {w : World} {v : Value} {n : Nat} {t : Nat → Nat × Nat} {tb E Q : Nat} {W : World} (h : IX O c w v n t tb E Q W) (k : Nat) : IX O c w v n t tb E Q (W.drewN k) :=
  ⟨⟨h.s.os, h.s.tape, h.s.output, h.s.size, h.s.block⟩, h.l, h.e, h.q⟩
set_option maxHeartbeats 4000000 in
theorem index_any {O : Nat → Nat} {c : Nat} {w : World} {a : Option Addr} {cap n : Nat} {t : Nat → Nat × Nat} (h : Li O c w 37 2 (.slice a n cap) n (tagF t)) (hn : n ≤ 1000) (E Q : Nat) :
    Calls Try.prog 10 #[.slice a n cap, .agg #[.int .u64 (E : Nat), .int .u64 (Q : Nat)]] w fun e w' => (∃ x : Nat, e = .returned (.int .i64 (x : Nat)) ∧ x ≤ n ∧ (x < n → t x = (E, Q))) ∧ w.Since w.heap.size w' := by
  obtain ⟨W1, HW1, s1, d0, d1, z1⟩ := tag_boxC w E Q
  have HX0 : Hid (IX O c w (.slice a n cap) n t w.heap.size E Q W1) := ⟨s1, h.keep (Ch.since (x := c + 1) s1) (by omega), d0, d1⟩
  clear h s1 d0 d1 z1
  obtain ⟨tb, HTB⟩ : ∃ x, Hid (w.heap.size = x) := ⟨_, rfl⟩
  rw [HTB.out] at HX0
  have HN := hide hn
  clear hn
  go_enter Try.func10, Try.ntmps10
  go_upto_region 1 with fail
  rw [HW1.out, HTB.out]
  go_wp2_with fail
  go_loopg [5] n (fun q s5 wx => ∃ i : Nat, i ≤ n ∧ q = n - i ∧ s5 = .int .i64 (i : Nat) ∧ Hid (IX O c w (.slice a n cap) n t tb E Q wx))
  case atStart => exact ⟨0, Nat.zero_le _, rfl, rfl, HX0⟩
  case round =>
    clear HX0
    obtain ⟨i, hi, rfl, rfl, HX⟩ := hrel
    have e0 := HX.out.e
    have e1 := HX.out.q
    by_cases hlt : i < n
    · have zi : (i : Int) < (n : Int) := by omega
      have zi0 : (0 : Int) ≤ (i : Int) := by omega
      have hwi : IntKind.i64.wrap ((i : Int) + 1) = (i : Int) + 1 := by have := HN.out; rw [IntKind.wrap_i64]; omega
      have hme : n - (i + 1) < n - i := by omega
      obtain ⟨b, cap', hv, c0, c1, _⟩ := li_tag HX.out.l i hlt
      injection hv with ea _ ec
      subst ea ec
      have HI := hide hlt
      obtain ⟨p, hp⟩ : ∃ p, t i = p := ⟨_, rfl⟩
      rw [hp] at c0 c1
      obtain ⟨p1, p2⟩ := p
      have HP := hide hp
      clear hp hlt hi
      by_cases q1 : p1 = E
      · by_cases q2 : p2 = Q
        · subst q1 q2
          go_upto_region 4 with fail
          go_quiet (fail)
          go_wp2_with fail
          go_ret
          exact ⟨⟨i, rfl, Nat.le_of_lt HI.out, fun _ => HP.out⟩, (HX.out.drewN _).s⟩
        · subst q1
          have z2 : ((p2 : Int) == (Q : Int)) = false := by simp; omega
          have z2' : ¬ (p2 : Int) = (Q : Int) := by omega
          have z2'' : ¬ p2 = Q := by omega
          clear q2
          go_upto_region 4 with fail
          go_quiet (fail)
          go_wp2_with fail
          go_roundg (n - (i + 1))
          case measure => go_light; exact hme
          case rel => go_light; exact ⟨i + 1, HI.out, rfl, by simp, HX.out.drewN _⟩
      · have z1 : ((p1 : Int) == (E : Int)) = false := by simp; omega
        have z1' : ¬ (p1 : Int) = (E : Int) := by omega
        have z1'' : ¬ p1 = E := by omega
        clear q1
        go_upto_region 4 with fail
        go_quiet (fail)
        go_wp2_with fail
        go_roundg (n - (i + 1))
        case measure => go_light; exact hme
        case rel => go_light; exact ⟨i + 1, HI.out, rfl, by simp, HX.out.drewN _⟩
    · obtain rfl : i = n := by omega
      have zi : ¬ (i : Int) < (i : Int) := by omega
      have HE : Hid (w.Since w.heap.size wr) := HX.out.s
      clear hlt hi HX
      go_wp2_with fail
      go_ret
      exact ⟨⟨i, rfl, Nat.le_refl _, fun h => absurd h (Nat.lt_irrefl _)⟩, HE.out⟩
set_option maxHeartbeats 4000000 in
theorem place_any {O : Nat → Nat} {c : Nat} {w : World} {a : Option Addr} {cap n : Nat} {t : Nat → Nat} (h : Li O c w 33 1 (.slice a n cap) n (fun j => .int .u64 (t j : Nat))) (hn : n ≤ 1000) (E : Nat) :
    Calls Try.prog 11 #[.slice a n cap, .int .u64 (E : Nat)] w fun e w' => (∃ x : Nat, e = .returned (.int .i64 (x : Nat)) ∧ x ≤ n ∧ (x < n → t x = E)) ∧ w = w' := by
  have HX := hide h
  have HN := hide hn
  clear h hn
  go_enter Try.func11, Try.ntmps11
  go_wp2_with fail
  go_loopg [5] n (fun q s5 wx => ∃ i : Nat, i ≤ n ∧ q = n - i ∧ s5 = .int .i64 (i : Nat) ∧ Hid (wx = w))
  case atStart => exact ⟨0, Nat.zero_le _, rfl, rfl, rfl⟩
  case round =>
    obtain ⟨i, hi, rfl, rfl, HW⟩ := hrel
    have hw := HW.out
    subst hw
    by_cases hlt : i < n
    · have zi : (i : Int) < (n : Int) := by omega
      have zi0 : (0 : Int) ≤ (i : Int) := by omega
      have hwi : IntKind.i64.wrap ((i : Int) + 1) = (i : Int) + 1 := by have := HN.out; rw [IntKind.wrap_i64]; omega
      have hme : n - (i + 1) < n - i := by omega
      obtain ⟨b, cap', F, hv, _, _, h3, h4⟩ := HX.out.at' (by omega)
      have c0 := h3.1.cell (i := i) (by omega)
      rw [h4 i (by omega)] at c0
      injection hv with ea _ ec
      subst ea ec
      have HI := hide hlt
      obtain ⟨p, hp⟩ : ∃ p, t i = p := ⟨_, rfl⟩
      rw [hp] at c0
      have HP := hide hp
      clear hp hlt hi h3 h4
      by_cases q1 : p = E
      · subst q1
        go_wp2_with fail
        go_ret
        exact ⟨⟨i, rfl, Nat.le_of_lt HI.out, fun _ => HP.out⟩, rfl⟩
      · have z1 : ((p : Int) == (E : Int)) = false := by simp; omega
        clear q1
        go_wp2_with fail
        go_roundg (n - (i + 1))
        case measure => go_light; exact hme
        case rel => go_light; exact ⟨i + 1, HI.out, rfl, by simp, rfl⟩
    · obtain rfl : i = n := by omega
      have zi : ¬ (i : Int) < (i : Int) := by omega
      clear hlt hi
      go_wp2_with fail
      go_ret
      exact ⟨⟨i, rfl, Nat.le_refl _, fun h => absurd h (Nat.lt_irrefl _)⟩, rfl⟩
/-- How many of the first ones. -/
def cnt (f : Nat → Bool) : Nat → Nat
  | 0 => 0
  | n + 1 => cnt f n + (if f n then 1 else 0)
theorem cnt_le (f : Nat → Bool) (n : Nat) : cnt f n ≤ n := by
  induction n with
  | zero => exact Nat.le_refl _
  | succ n ih =>
    show cnt f n + (if f n then 1 else 0) ≤ n + 1
    split <;> omega
theorem cnt_both (f g : Nat → Bool) (n : Nat) : cnt f n + cnt g n ≤ n + cnt (fun k => f k && g k) n := by
  induction n with
  | zero => exact Nat.le_refl _
  | succ n ih =>
    show (cnt f n + (if f n then 1 else 0)) + (cnt g n + (if g n then 1 else 0)) ≤ n + 1 + (cnt (fun k => f k && g k) n + (if f n && g n then 1 else 0))
    cases f n <;> cases g n <;> simp <;> omega
theorem cnt_pos (f : Nat → Bool) (n : Nat) (h : 0 < cnt f n) : ∃ k, k < n ∧ f k = true := by
  induction n with
  | zero => exact absurd h (Nat.lt_irrefl _)
  | succ n ih =>
    by_cases e : f n = true
    · exact ⟨n, Nat.lt_succ_self _, e⟩
    · have : 0 < cnt f n := by
        have h' : 0 < cnt f n + (if f n then 1 else 0) := h
        rw [if_neg e] at h'
        exact h'
      obtain ⟨k, h1, h2⟩ := ih this
      exact ⟨k, Nat.lt_succ_of_lt h1, h2⟩
theorem meets {f g : Nat → Bool} {n : Nat} (hf : n < 2 * cnt f n) (hg : n < 2 * cnt g n) : ∃ k, k < n ∧ f k = true ∧ g k = true := by
  obtain ⟨k, h1, h2⟩ := cnt_pos (fun k => f k && g k) n (by have := cnt_both f g n; omega)
  have h3 : (f k && g k) = true := h2
  rw [Bool.and_eq_true] at h3
  exact ⟨k, h1, h3.1, h3.2⟩
set_option maxHeartbeats 4000000 in
theorem most_any {w : World} {b cap n : Nat} {f : Nat → Bool} (h : w.rowIs b 4 n (fun k => .bool (f k))) (hn : n ≤ 1000) :
    Calls Try.prog 12 #[.slice (some ⟨b, 0, none⟩) n cap, .int .i64 (n : Nat)] w fun e w' => e = .returned (.bool (decide (n < 2 * cnt f n))) ∧ w = w' := by
  have HX := hide h
  have HN := hide hn
  clear h hn
  go_enter Try.func12, Try.ntmps12
  go_wp2_with fail
  go_loopg [5, 6] n (fun q s5 s6 wx => ∃ i k : Nat, i ≤ n ∧ q = n - i ∧ s6 = .int .i64 (i : Nat) ∧ s5 = .int .i64 (k : Nat) ∧ Hid (wx = w ∧ cnt f i = k))
  case atStart => exact ⟨0, 0, Nat.zero_le _, rfl, rfl, rfl, rfl, rfl⟩
  case round =>
    obtain ⟨i, k, hi, rfl, rfl, rfl, HW⟩ := hrel
    have hw := HW.out.1
    have HK := hide HW.out.2
    clear HW
    subst hw
    have hki := cnt_le f i
    rw [HK.out] at hki
    by_cases hlt : i < n
    · have zi : (i : Int) < (n : Int) := by omega
      have zi0 : (0 : Int) ≤ (i : Int) := by omega
      have hwi : IntKind.i64.wrap ((i : Int) + 1) = (i : Int) + 1 := by have := HN.out; rw [IntKind.wrap_i64]; omega
      have hwk : IntKind.i64.wrap ((k : Int) + 1) = (k : Int) + 1 := by have := HN.out; rw [IntKind.wrap_i64]; omega
      have hme : n - (i + 1) < n - i := by omega
      have c0 := HX.out.cell (i := i) hlt
      have HI := hide hlt
      cases hf : f i with
      | true =>
        rw [hf] at c0
        have HC : Hid (cnt f (i + 1) = k + 1) := by
          show cnt f i + (if f i then 1 else 0) = k + 1
          rw [hf, HK.out]
          rfl
        clear hlt hi hki hf HK
        go_wp2_with fail
        go_roundg (n - (i + 1))
        case measure => go_light; exact hme
        case rel => go_light; exact ⟨i + 1, k + 1, HI.out, rfl, by simp, by simp, rfl, HC.out⟩
      | false =>
        rw [hf] at c0
        have HC : Hid (cnt f (i + 1) = k) := by
          show cnt f i + (if f i then 1 else 0) = k
          rw [hf, HK.out]
          rfl
        clear hlt hi hki hf HK
        go_wp2_with fail
        go_roundg (n - (i + 1))
        case measure => go_light; exact hme
        case rel => go_light; exact ⟨i + 1, k, HI.out, rfl, by simp, rfl, rfl, HC.out⟩
    · obtain rfl : i = n := by omega
      have zi : ¬ (i : Int) < (i : Int) := by omega
      obtain ⟨y, hy, hy2⟩ : ∃ y : Nat, 2 * (k : Int) = (y : Int) ∧ y = 2 * k := ⟨2 * k, by omega, rfl⟩
      have hwy : IntKind.i64.wrap (y : Int) = (y : Int) := by have := HN.out; rw [IntKind.wrap_i64]; omega
      have HY := hide hy2
      clear hlt hi hki hy2
      by_cases q : i < y
      · have q2 : (y : Int) > (i : Int) := by omega
        have Q3 := hide (show decide (i < y) = true by simpa using q)
        clear q
        go_wp2_with fail
        go_ret
        refine ⟨?_, rfl⟩
        rw [HK.out, ← HY.out, Q3.out]
        rfl
      · have q2 : ¬ (y : Int) > (i : Int) := by omega
        have Q3 := hide (show decide (i < y) = false by simpa using q)
        clear q
        go_wp2_with fail
        go_ret
        refine ⟨?_, rfl⟩
        rw [HK.out, ← HY.out, Q3.out]
        rfl
end Go.Proofs.Ytfmndfgdchhaeaa

/- ReplicaMeets: what the law keeps in memory. -/
namespace Go.Proofs.Ytfmndfgdchhaeaa
open Go.RowKit
set_option maxRecDepth 100000
set_option maxRecDepth 100000

/-- Where things lie. -/
structure Ad where
  L : Nat
  lc : Nat
  RB : Nat → Nat
  T : Nat
structure MI (w0 : World) (n : Nat) (A : Ad) (X : Option (Nat × (Nat → Value))) (O : Nat → Nat) (W : World) (M : Ms) (vS vW vE vF vI : Value) (wb fb : Nat → Nat) : Prop where
  base : w0.Since w0.heap.size W
  zero : ∀ k, k < w0.heap.size → O k = 0
  reps : Li O 1 W 27 1 (.slice (some ⟨A.L, 0, none⟩) n A.lc) n (fun k => .pointer (some ⟨A.RB k, 0, none⟩))
  rp : ∀ k, k < n → RpIs W (A.RB k) (M.R k) ∧ O (A.RB k) = 10 + 3 * k
  told : RowC O 2 W A.T 37 (n * 2) (tagF M.tl)
  seen : Li O 3 W 37 2 vS M.ns (tagF M.sn)
  who : Li O 4 W 53 1 vW M.nw (fun i => .slice (some ⟨wb i, 0, none⟩) n n)
  whr : ∀ i, i < M.nw → RowC O (11 + 3 * i) W (wb i) 4 n (fun k => .bool (M.wh i k))
  eps : Li O 5 W 33 1 vE M.ne (fun e => .int .u64 (M.ep e : Nat))
  frm : Li O 6 W 53 1 vF M.nf (fun e => .slice (some ⟨fb e, 0, none⟩) n n)
  frr : ∀ e, e < M.nf → RowC O (12 + 3 * e) W (fb e) 4 n (fun k => .bool (M.fr e k))
  wth : Li O 7 W 37 2 vI M.ni (tagF M.wi)
  hd : ∀ b f, X = some (b, f) → RowC O 8 W b 49 25 f
theorem up_self {α : Type} (f : Nat → α) (k : Nat) : up f k (f k) = f := funext fun j => by
  unfold up
  split
  · rename_i h; rw [h]
  · rfl
section
variable {w0 : World} {n : Nat} {A : Ad} {X : Option (Nat × (Nat → Value))} {O : Nat → Nat} {W W2 : World} {M : Ms} {vS vW vE vF vI : Value} {wb fb : Nat → Nat}
theorem MI.since (h : MI w0 n A X O W M vS vW vE vF vI wb fb) (s : W.Since W.heap.size W2) : MI w0 n A X O W2 M vS vW vE vF vI wb fb := by
  have k : Ch 9 O O W W2 := Ch.since s
  exact ⟨(k.base h.base h.zero (by omega)).1, (k.base h.base h.zero (by omega)).2, h.reps.keep k (by omega), fun j hj => ⟨(h.rp j hj).1.on (k.block _ (h.rp j hj).1.lt (by rw [(h.rp j hj).2]; omega)), (k.col _ (h.rp j hj).1.lt).trans (h.rp j hj).2⟩, h.told.keep k (by omega), h.seen.keep k (by omega), h.who.keep k (by omega), fun i hi => (h.whr i hi).keep k (by omega), h.eps.keep k (by omega), h.frm.keep k (by omega), fun i hi => (h.frr i hi).keep k (by omega), h.wth.keep k (by omega), fun b f e => (h.hd b f e).keep k (by omega)⟩
theorem MI.rep (h : MI w0 n A X O W M vS vW vE vF vI wb fb) (q : Nat) (hq : q < n) {r : Rp} (b : But (A.RB q) W W2) (hr : RpIs W2 (A.RB q) r) : MI w0 n A X O W2 (M.rep q r) vS vW vE vF vI wb fb := by
  have k : Ch (10 + 3 * q) O O W W2 := ⟨b.os, b.tape, b.output, b.size, fun _ _ => rfl, fun i hi hn => b.block i hi (fun e => hn (by rw [e]; exact (h.rp q hq).2))⟩
  exact ⟨(k.base h.base h.zero (by omega)).1, (k.base h.base h.zero (by omega)).2, h.reps.keep k (by omega), fun j hj => by
    show RpIs W2 (A.RB j) (up M.R q r j) ∧ _
    by_cases e : j = q
    · subst e
      rw [up_same]
      exact ⟨hr, (h.rp j hj).2⟩
    · rw [up_ne _ _ _ e]
      exact ⟨(h.rp j hj).1.on (k.block _ (h.rp j hj).1.lt (by rw [(h.rp j hj).2]; omega)), (h.rp j hj).2⟩, h.told.keep k (by omega), h.seen.keep k (by omega), h.who.keep k (by omega), fun i hi => (h.whr i hi).keep k (by omega), h.eps.keep k (by omega), h.frm.keep k (by omega), fun i hi => (h.frr i hi).keep k (by omega), h.wth.keep k (by omega), fun b f e => (h.hd b f e).keep k (by omega)⟩
theorem tagrow_set {c : Nat} {b : Nat} {m : Nat} {t : Nat → Nat × Nat} (h : RowC O c W b 37 m (tagF t)) (q : Nat) (v : Nat × Nat) : RowC O c ((W.setCell ⟨b, q * 2, none⟩ (.int .u64 (v.1 : Nat))).setCell ⟨b, q * 2 + 1, none⟩ (.int .u64 (v.2 : Nat))) b 37 m (tagF (up t q v)) :=
  ⟨((h.1.set (q * 2) _).set (q * 2 + 1) _).congr (fun j _ => (tagF_up t q v j).symm), h.2⟩
theorem MI.tell (h : MI w0 n A X O W M vS vW vE vF vI wb fb) (q : Nat) (v : Nat × Nat) : MI w0 n A X O ((W.setCell ⟨A.T, q * 2, none⟩ (.int .u64 (v.1 : Nat))).setCell ⟨A.T, q * 2 + 1, none⟩ (.int .u64 (v.2 : Nat))) { M with tl := up M.tl q v } vS vW vE vF vI wb fb := by
  have k : Ch 2 O O W ((W.setCell ⟨A.T, q * 2, none⟩ (.int .u64 (v.1 : Nat))).setCell ⟨A.T, q * 2 + 1, none⟩ (.int .u64 (v.2 : Nat))) := (Ch.set h.told.2 _ _).trans (Ch.set h.told.2 _ _)
  exact ⟨(k.base h.base h.zero (by omega)).1, (k.base h.base h.zero (by omega)).2, h.reps.keep k (by omega), fun j hj => ⟨(h.rp j hj).1.on (k.block _ (h.rp j hj).1.lt (by rw [(h.rp j hj).2]; omega)), (k.col _ (h.rp j hj).1.lt).trans (h.rp j hj).2⟩, tagrow_set h.told q v, h.seen.keep k (by omega), h.who.keep k (by omega), fun i hi => (h.whr i hi).keep k (by omega), h.eps.keep k (by omega), h.frm.keep k (by omega), fun i hi => (h.frr i hi).keep k (by omega), h.wth.keep k (by omega), fun b f e => (h.hd b f e).keep k (by omega)⟩
theorem infoT : (Try.prog.info? 37).map (fun i => (i.zero, i.size, i.bytes)) = some (some (.agg #[.int .u64 0, .int .u64 0]), 2, 16) := by kernel_rfl
theorem infoU : (Try.prog.info? 33).map (fun i => (i.zero, i.size, i.bytes)) = some (some (.int .u64 0), 1, 8) := by kernel_rfl
theorem infoL : (Try.prog.info? 53).map (fun i => (i.zero, i.size, i.bytes)) = some (some (.slice none 0 0), 1, 24) := by kernel_rfl
theorem infoB : (Try.prog.info? 4).map (fun i => (i.zero, i.size, i.bytes)) = some (some (.bool false), 1, 1) := by kernel_rfl
theorem infoP : (Try.prog.info? 27).map (fun i => (i.zero, i.size, i.bytes)) = some (some (.pointer none), 1, 8) := by kernel_rfl
theorem tagF_app (t : Nat → Nat × Nat) (m : Nat) (v : Nat × Nat) (j : Nat) (hj : j < (m + 1) * 2) : (if j < m * 2 then tagF t j else ([.int .u64 (v.1 : Nat), .int .u64 (v.2 : Nat)] : List Value).getD (j - m * 2) undef) = tagF (up t m v) j := by
  rw [tagF_up]
  by_cases h : j < m * 2
  · rw [if_pos h, if_neg (by omega), if_neg (by omega)]
  · rw [if_neg h]
    by_cases h2 : j = m * 2
    · subst h2
      rw [if_neg (by omega), if_pos rfl, Nat.sub_self]
      rfl
    · have h3 : j = m * 2 + 1 := by omega
      subst h3
      rw [if_pos rfl, show m * 2 + 1 - m * 2 = 1 by omega]
      rfl
theorem MI.appS (h : MI w0 n A X O W M vS vW vE vF vI wb fb) (v : Nat × Nat) (hn : M.ns ≤ 1000) :
    ∃ a c W3, (Builtin.append_ #[30, 30] 30 #[vS, .slice (some ⟨W.heap.size, 0, none⟩) 1 1]).run Try.prog (W.alloc (.cells #[.int .u64 (v.1 : Nat), .int .u64 (v.2 : Nat)] 37)) = .ok (.slice a (M.ns + 1) c) W3 ∧ ∃ O2, MI w0 n A X O2 W3 (M.tag v) (.slice a (M.ns + 1) c) vW vE vF vI wb fb := by
  obtain ⟨v', W3, e, k, hl⟩ := h.seen.app (P := Try.prog) Try.underlying30 infoT rfl (by decide) [.int .u64 (v.1 : Nat), .int .u64 (v.2 : Nat)] rfl (by simp [Value.oneCell']) (by omega) (by omega)
  obtain ⟨a, c, rfl⟩ := hl.form
  exact ⟨a, c, W3, e, _, ⟨(k.base h.base h.zero (by omega)).1, (k.base h.base h.zero (by omega)).2, h.reps.keep k (by omega), fun j hj => ⟨(h.rp j hj).1.on (k.block _ (h.rp j hj).1.lt (by rw [(h.rp j hj).2]; omega)), (k.col _ (h.rp j hj).1.lt).trans (h.rp j hj).2⟩, h.told.keep k (by omega), hl.congr (fun j hj => tagF_app _ _ _ j hj), h.who.keep k (by omega), fun i hi => (h.whr i hi).keep k (by omega), h.eps.keep k (by omega), h.frm.keep k (by omega), fun i hi => (h.frr i hi).keep k (by omega), h.wth.keep k (by omega), fun b f e => (h.hd b f e).keep k (by omega)⟩⟩
theorem MI.appI (h : MI w0 n A X O W M vS vW vE vF vI wb fb) (hn : M.ni ≤ 1000) :
    ∃ a c W3, (Builtin.append_ #[30, 30] 30 #[vI, .slice (some ⟨W.heap.size, 0, none⟩) 1 1]).run Try.prog (W.alloc (.cells #[.int .u64 0, .int .u64 0] 37)) = .ok (.slice a (M.ni + 1) c) W3 ∧ ∃ O2, MI w0 n A X O2 W3 M.wit vS vW vE vF (.slice a (M.ni + 1) c) wb fb := by
  obtain ⟨v', W3, e, k, hl⟩ := h.wth.app (P := Try.prog) Try.underlying30 infoT rfl (by decide) [.int .u64 0, .int .u64 0] rfl (by simp [Value.oneCell']) (by omega) (by omega)
  obtain ⟨a, c, rfl⟩ := hl.form
  exact ⟨a, c, W3, e, _, ⟨(k.base h.base h.zero (by omega)).1, (k.base h.base h.zero (by omega)).2, h.reps.keep k (by omega), fun j hj => ⟨(h.rp j hj).1.on (k.block _ (h.rp j hj).1.lt (by rw [(h.rp j hj).2]; omega)), (k.col _ (h.rp j hj).1.lt).trans (h.rp j hj).2⟩, h.told.keep k (by omega), h.seen.keep k (by omega), h.who.keep k (by omega), fun i hi => (h.whr i hi).keep k (by omega), h.eps.keep k (by omega), h.frm.keep k (by omega), fun i hi => (h.frr i hi).keep k (by omega), hl.congr (fun j hj => tagF_app _ _ (0, 0) j hj), fun b f e => (h.hd b f e).keep k (by omega)⟩⟩
theorem MI.appE (h : MI w0 n A X O W M vS vW vE vF vI wb fb) (E : Nat) (hn : M.ne ≤ 1000) :
    ∃ a c W3, (Builtin.append_ #[32, 32] 32 #[vE, .slice (some ⟨W.heap.size, 0, none⟩) 1 1]).run Try.prog (W.alloc (.cells #[.int .u64 (E : Nat)] 33)) = .ok (.slice a (M.ne + 1) c) W3 ∧ ∃ O2, MI w0 n A X O2 W3 (M.epo E) vS vW (.slice a (M.ne + 1) c) vF vI wb fb := by
  obtain ⟨v', W3, e, k, hl⟩ := h.eps.app (P := Try.prog) Try.underlying32 infoU rfl (by decide) [.int .u64 (E : Nat)] rfl (by simp [Value.oneCell']) (by omega) (by omega)
  obtain ⟨a, c, rfl⟩ := hl.form
  refine ⟨a, c, W3, e, _, ⟨(k.base h.base h.zero (by omega)).1, (k.base h.base h.zero (by omega)).2, h.reps.keep k (by omega), fun j hj => ⟨(h.rp j hj).1.on (k.block _ (h.rp j hj).1.lt (by rw [(h.rp j hj).2]; omega)), (k.col _ (h.rp j hj).1.lt).trans (h.rp j hj).2⟩, h.told.keep k (by omega), h.seen.keep k (by omega), h.who.keep k (by omega), fun i hi => (h.whr i hi).keep k (by omega), hl.congr (fun j hj => ?_), h.frm.keep k (by omega), fun i hi => (h.frr i hi).keep k (by omega), h.wth.keep k (by omega), fun b f e => (h.hd b f e).keep k (by omega)⟩⟩
  show (if j < M.ne * 1 then Value.int .u64 (M.ep j : Nat) else ([.int .u64 (E : Nat)] : List Value).getD (j - M.ne * 1) undef) = .int .u64 (up M.ep M.ne E j : Nat)
  by_cases q : j < M.ne * 1
  · rw [if_pos q, up_ne _ _ _ (by omega)]
  · obtain rfl : j = M.ne := by omega
    rw [if_neg q, up_same, Nat.mul_one, Nat.sub_self]
    rfl
theorem MI.appW (h : MI w0 n A X O W M vS vW vE vF vI wb fb) (hn : M.nw ≤ 1000) :
    ∃ a c W3, (Builtin.append_ #[31, 31] 31 #[vW, .slice (some ⟨(W.alloc (.cells (madeCells #[.bool false] n) 4)).heap.size, 0, none⟩) 1 1]).run Try.prog ((W.alloc (.cells (madeCells #[.bool false] n) 4)).alloc (.cells #[.slice (some ⟨W.heap.size, 0, none⟩) n n] 53)) = .ok (.slice a (M.nw + 1) c) W3 ∧ ∃ O2, MI w0 n A X O2 W3 M.row vS (.slice a (M.nw + 1) c) vE vF vI (up wb M.nw W.heap.size) fb := by
  obtain ⟨W1, e1⟩ : ∃ W1, W.alloc (.cells (madeCells #[.bool false] n) 4) = W1 := ⟨_, rfl⟩
  have hrow : W1.rowIs W.heap.size 4 n (fun _ => .bool false) := by rw [← e1]; exact World.rowIs_made W _ n _
  have s1 : W.Since W.heap.size W1 := by rw [← e1]; exact (World.Since.refl _ _).alloc (Nat.le_refl _) _
  have k1 : Ch 9 O (fun k => if k < W.heap.size then O k else 11 + 3 * M.nw) W W1 := ⟨s1.os, s1.tape, s1.output, s1.size, fun k hk => if_pos hk, fun k hk _ => s1.block k hk⟩
  have hrc : RowC (fun k => if k < W.heap.size then O k else 11 + 3 * M.nw) (11 + 3 * M.nw) W1 W.heap.size 4 n (fun _ => .bool false) := ⟨hrow, if_neg (Nat.lt_irrefl _)⟩
  rw [e1]
  have h' : MI w0 n A X (fun k => if k < W.heap.size then O k else 11 + 3 * M.nw) W1 M vS vW vE vF vI wb fb := ⟨(k1.base h.base h.zero (by omega)).1, (k1.base h.base h.zero (by omega)).2, h.reps.keep k1 (by omega), fun j hj => ⟨(h.rp j hj).1.on (k1.block _ (h.rp j hj).1.lt (by rw [(h.rp j hj).2]; omega)), (k1.col _ (h.rp j hj).1.lt).trans (h.rp j hj).2⟩, h.told.keep k1 (by omega), h.seen.keep k1 (by omega), h.who.keep k1 (by omega), fun i hi => (h.whr i hi).keep k1 (by omega), h.eps.keep k1 (by omega), h.frm.keep k1 (by omega), fun i hi => (h.frr i hi).keep k1 (by omega), h.wth.keep k1 (by omega), fun b f e => (h.hd b f e).keep k1 (by omega)⟩
  clear h
  have h := h'
  clear h' k1
  obtain ⟨v', W3, e, k, hl⟩ := h.who.app (P := Try.prog) Try.underlying31 infoL rfl (by decide) [.slice (some ⟨W.heap.size, 0, none⟩) n n] rfl (by simp [Value.oneCell']) (by omega) (by omega)
  obtain ⟨a, c, rfl⟩ := hl.form
  refine ⟨a, c, W3, e, _, ⟨(k.base h.base h.zero (by omega)).1, (k.base h.base h.zero (by omega)).2, h.reps.keep k (by omega), fun j hj => ⟨(h.rp j hj).1.on (k.block _ (h.rp j hj).1.lt (by rw [(h.rp j hj).2]; omega)), (k.col _ (h.rp j hj).1.lt).trans (h.rp j hj).2⟩, h.told.keep k (by omega), h.seen.keep k (by omega), hl.congr (fun j hj => ?_), fun i hi => ?_, h.eps.keep k (by omega), h.frm.keep k (by omega), fun i hi => (h.frr i hi).keep k (by omega), h.wth.keep k (by omega), fun b f e => (h.hd b f e).keep k (by omega)⟩⟩
  · show (if j < M.nw * 1 then Value.slice (some ⟨wb j, 0, none⟩) n n else ([.slice (some ⟨W.heap.size, 0, none⟩) n n] : List Value).getD (j - M.nw * 1) undef) = .slice (some ⟨up wb M.nw W.heap.size j, 0, none⟩) n n
    by_cases q : j < M.nw * 1
    · rw [if_pos q, up_ne _ _ _ (by omega)]
    · obtain rfl : j = M.nw := by omega
      rw [if_neg q, up_same, Nat.mul_one, Nat.sub_self]
      rfl
  · by_cases q : i < M.nw
    · have r := (h.whr i q).keep k (by omega)
      show RowC _ _ W3 (up wb M.nw W.heap.size i) _ n (fun k => .bool (up M.wh M.nw (fun _ => false) i k))
      rw [up_ne _ _ _ (by omega), up_ne _ _ _ (by omega)]
      exact r
    · have hi' : i < M.nw + 1 := hi
      obtain rfl : i = M.nw := by omega
      show RowC _ _ W3 (up wb M.nw W.heap.size M.nw) _ n (fun k => .bool (up M.wh M.nw (fun _ => false) M.nw k))
      rw [up_same, up_same]
      exact hrc.keep k (by omega)
theorem MI.appF (h : MI w0 n A X O W M vS vW vE vF vI wb fb) (hn : M.nf ≤ 1000) :
    ∃ a c W3, (Builtin.append_ #[31, 31] 31 #[vF, .slice (some ⟨(W.alloc (.cells (madeCells #[.bool false] n) 4)).heap.size, 0, none⟩) 1 1]).run Try.prog ((W.alloc (.cells (madeCells #[.bool false] n) 4)).alloc (.cells #[.slice (some ⟨W.heap.size, 0, none⟩) n n] 53)) = .ok (.slice a (M.nf + 1) c) W3 ∧ ∃ O2, MI w0 n A X O2 W3 M.frw vS vW vE (.slice a (M.nf + 1) c) vI wb (up fb M.nf W.heap.size) := by
  obtain ⟨W1, e1⟩ : ∃ W1, W.alloc (.cells (madeCells #[.bool false] n) 4) = W1 := ⟨_, rfl⟩
  have hrow : W1.rowIs W.heap.size 4 n (fun _ => .bool false) := by rw [← e1]; exact World.rowIs_made W _ n _
  have s1 : W.Since W.heap.size W1 := by rw [← e1]; exact (World.Since.refl _ _).alloc (Nat.le_refl _) _
  have k1 : Ch 9 O (fun k => if k < W.heap.size then O k else 12 + 3 * M.nf) W W1 := ⟨s1.os, s1.tape, s1.output, s1.size, fun k hk => if_pos hk, fun k hk _ => s1.block k hk⟩
  have hrc : RowC (fun k => if k < W.heap.size then O k else 12 + 3 * M.nf) (12 + 3 * M.nf) W1 W.heap.size 4 n (fun _ => .bool false) := ⟨hrow, if_neg (Nat.lt_irrefl _)⟩
  rw [e1]
  have h' : MI w0 n A X (fun k => if k < W.heap.size then O k else 12 + 3 * M.nf) W1 M vS vW vE vF vI wb fb := ⟨(k1.base h.base h.zero (by omega)).1, (k1.base h.base h.zero (by omega)).2, h.reps.keep k1 (by omega), fun j hj => ⟨(h.rp j hj).1.on (k1.block _ (h.rp j hj).1.lt (by rw [(h.rp j hj).2]; omega)), (k1.col _ (h.rp j hj).1.lt).trans (h.rp j hj).2⟩, h.told.keep k1 (by omega), h.seen.keep k1 (by omega), h.who.keep k1 (by omega), fun i hi => (h.whr i hi).keep k1 (by omega), h.eps.keep k1 (by omega), h.frm.keep k1 (by omega), fun i hi => (h.frr i hi).keep k1 (by omega), h.wth.keep k1 (by omega), fun b f e => (h.hd b f e).keep k1 (by omega)⟩
  clear h
  have h := h'
  clear h' k1
  obtain ⟨v', W3, e, k, hl⟩ := h.frm.app (P := Try.prog) Try.underlying31 infoL rfl (by decide) [.slice (some ⟨W.heap.size, 0, none⟩) n n] rfl (by simp [Value.oneCell']) (by omega) (by omega)
  obtain ⟨a, c, rfl⟩ := hl.form
  refine ⟨a, c, W3, e, _, ⟨(k.base h.base h.zero (by omega)).1, (k.base h.base h.zero (by omega)).2, h.reps.keep k (by omega), fun j hj => ⟨(h.rp j hj).1.on (k.block _ (h.rp j hj).1.lt (by rw [(h.rp j hj).2]; omega)), (k.col _ (h.rp j hj).1.lt).trans (h.rp j hj).2⟩, h.told.keep k (by omega), h.seen.keep k (by omega), h.who.keep k (by omega), fun i hi => (h.whr i hi).keep k (by omega), h.eps.keep k (by omega), hl.congr (fun j hj => ?_), fun i hi => ?_, h.wth.keep k (by omega), fun b f e => (h.hd b f e).keep k (by omega)⟩⟩
  · show (if j < M.nf * 1 then Value.slice (some ⟨fb j, 0, none⟩) n n else ([.slice (some ⟨W.heap.size, 0, none⟩) n n] : List Value).getD (j - M.nf * 1) undef) = .slice (some ⟨up fb M.nf W.heap.size j, 0, none⟩) n n
    by_cases q : j < M.nf * 1
    · rw [if_pos q, up_ne _ _ _ (by omega)]
    · obtain rfl : j = M.nf := by omega
      rw [if_neg q, up_same, Nat.mul_one, Nat.sub_self]
      rfl
  · by_cases q : i < M.nf
    · have r := (h.frr i q).keep k (by omega)
      show RowC _ _ W3 (up fb M.nf W.heap.size i) _ n (fun k => .bool (up M.fr M.nf (fun _ => false) i k))
      rw [up_ne _ _ _ (by omega), up_ne _ _ _ (by omega)]
      exact r
    · have hi' : i < M.nf + 1 := hi
      obtain rfl : i = M.nf := by omega
      show RowC _ _ W3 (up fb M.nf W.heap.size M.nf) _ n (fun k => .bool (up M.fr M.nf (fun _ => false) M.nf k))
      rw [up_same, up_same]
      exact hrc.keep k (by omega)
theorem MI.mark (h : MI w0 n A X O W M vS vW vE vF vI wb fb) (i : Nat) (hi : i < M.nw) (q : Nat) : MI w0 n A X O (W.setCell ⟨wb i, q, none⟩ (.bool true)) (M.mark i q) vS vW vE vF vI wb fb := by
  have k : Ch (11 + 3 * i) O O W (W.setCell ⟨wb i, q, none⟩ (.bool true)) := Ch.set (h.whr i hi).2 _ _
  refine ⟨(k.base h.base h.zero (by omega)).1, (k.base h.base h.zero (by omega)).2, h.reps.keep k (by omega), fun j hj => ⟨(h.rp j hj).1.on (k.block _ (h.rp j hj).1.lt (by rw [(h.rp j hj).2]; omega)), (k.col _ (h.rp j hj).1.lt).trans (h.rp j hj).2⟩, h.told.keep k (by omega), h.seen.keep k (by omega), h.who.keep k (by omega), fun j hj => ?_, h.eps.keep k (by omega), h.frm.keep k (by omega), fun i hi => (h.frr i hi).keep k (by omega), h.wth.keep k (by omega), fun b f e => (h.hd b f e).keep k (by omega)⟩
  show RowC O _ _ (wb j) _ n (fun c => .bool (up M.wh i (up (M.wh i) q true) j c))
  by_cases e : j = i
  · subst e
    rw [up_same]
    exact ⟨((h.whr j hj).1.set q _).congr (fun c _ => by
      show (if c = q then Value.bool true else .bool (M.wh j c)) = .bool (up (M.wh j) q true c)
      unfold up
      split <;> rfl), (h.whr j hj).2⟩
  · rw [up_ne _ _ _ e]
    exact (h.whr j hj).keep k (by omega)
theorem MI.prm (h : MI w0 n A X O W M vS vW vE vF vI wb fb) (i : Nat) (hi : i < M.nf) (q : Nat) : MI w0 n A X O (W.setCell ⟨fb i, q, none⟩ (.bool true)) (M.prm i q) vS vW vE vF vI wb fb := by
  have k : Ch (12 + 3 * i) O O W (W.setCell ⟨fb i, q, none⟩ (.bool true)) := Ch.set (h.frr i hi).2 _ _
  refine ⟨(k.base h.base h.zero (by omega)).1, (k.base h.base h.zero (by omega)).2, h.reps.keep k (by omega), fun j hj => ⟨(h.rp j hj).1.on (k.block _ (h.rp j hj).1.lt (by rw [(h.rp j hj).2]; omega)), (k.col _ (h.rp j hj).1.lt).trans (h.rp j hj).2⟩, h.told.keep k (by omega), h.seen.keep k (by omega), h.who.keep k (by omega), fun i hi => (h.whr i hi).keep k (by omega), h.eps.keep k (by omega), h.frm.keep k (by omega), fun j hj => ?_, h.wth.keep k (by omega), fun b f e => (h.hd b f e).keep k (by omega)⟩
  show RowC O _ _ (fb j) _ n (fun c => .bool (up M.fr i (up (M.fr i) q true) j c))
  by_cases e : j = i
  · subst e
    rw [up_same]
    exact ⟨((h.frr j hj).1.set q _).congr (fun c _ => by
      show (if c = q then Value.bool true else .bool (M.fr j c)) = .bool (up (M.fr j) q true c)
      unfold up
      split <;> rfl), (h.frr j hj).2⟩
  · rw [up_ne _ _ _ e]
    exact (h.frr j hj).keep k (by omega)
theorem MI.repHead (h : MI w0 n A X O W M vS vW vE vF vI wb fb) (q : Nat) (hq : q < n) {r : Rp} (b : But (A.RB q) W W2) (hr : RpIs W2 (A.RB q) r) {hb : Nat} {f : Nat → Value} (hw : W2.rowIs hb 49 25 f) (hge : W.heap.size ≤ hb) : ∃ O2, MI w0 n A (some (hb, f)) O2 W2 (M.rep q r) vS vW vE vF vI wb fb := by
  have k : Ch (10 + 3 * q) O (fun k => if k < W.heap.size then O k else 8) W W2 := ⟨b.os, b.tape, b.output, b.size, fun k hk => if_pos hk, fun i hi hn => b.block i hi (fun e => hn (by rw [e]; exact (h.rp q hq).2))⟩
  exact ⟨_, ⟨(k.base h.base h.zero (by omega)).1, (k.base h.base h.zero (by omega)).2, h.reps.keep k (by omega), fun j hj => by
    show RpIs W2 (A.RB j) (up M.R q r j) ∧ _
    by_cases e : j = q
    · subst e
      rw [up_same]
      exact ⟨hr, (k.col _ (h.rp j hj).1.lt).trans (h.rp j hj).2⟩
    · rw [up_ne _ _ _ e]
      exact ⟨(h.rp j hj).1.on (k.block _ (h.rp j hj).1.lt (by rw [(h.rp j hj).2]; omega)), (k.col _ (h.rp j hj).1.lt).trans (h.rp j hj).2⟩, h.told.keep k (by omega), h.seen.keep k (by omega), h.who.keep k (by omega), fun i hi => (h.whr i hi).keep k (by omega), h.eps.keep k (by omega), h.frm.keep k (by omega), fun i hi => (h.frr i hi).keep k (by omega), h.wth.keep k (by omega), fun b' f' e => by obtain ⟨rfl, rfl⟩ := Prod.mk.inj (Option.some.inj e); exact ⟨hw, if_neg (by omega)⟩⟩⟩
theorem MI.drop (h : MI w0 n A X O W M vS vW vE vF vI wb fb) : MI w0 n A none O W M vS vW vE vF vI wb fb :=
  ⟨h.base, h.zero, h.reps, h.rp, h.told, h.seen, h.who, h.whr, h.eps, h.frm, h.frr, h.wth, fun _ _ e => by cases e⟩
theorem MI.head (h : MI w0 n A X O W M vS vW vE vF vI wb fb) (s : W.Since W.heap.size W2) {b : Nat} {f : Nat → Value} (hr : W2.rowIs b 49 25 f) (hb : W.heap.size ≤ b) : ∃ O2, MI w0 n A (some (b, f)) O2 W2 M vS vW vE vF vI wb fb := by
  have k : Ch 9 O (fun k => if k < W.heap.size then O k else 8) W W2 := ⟨s.os, s.tape, s.output, s.size, fun k hk => if_pos hk, fun k hk _ => s.block k hk⟩
  exact ⟨_, ⟨(k.base h.base h.zero (by omega)).1, (k.base h.base h.zero (by omega)).2, h.reps.keep k (by omega), fun j hj => ⟨(h.rp j hj).1.on (k.block _ (h.rp j hj).1.lt (by rw [(h.rp j hj).2]; omega)), (k.col _ (h.rp j hj).1.lt).trans (h.rp j hj).2⟩, h.told.keep k (by omega), h.seen.keep k (by omega), h.who.keep k (by omega), fun i hi => (h.whr i hi).keep k (by omega), h.eps.keep k (by omega), h.frm.keep k (by omega), fun i hi => (h.frr i hi).keep k (by omega), h.wth.keep k (by omega), fun b' f' e => by obtain ⟨rfl, rfl⟩ := Prod.mk.inj (Option.some.inj e); exact ⟨hr, if_neg (by omega)⟩⟩⟩
theorem MI.put (h : MI w0 n A X O W M vS vW vE vF vI wb fb) (b c : Nat) (hv : vI = .slice (some ⟨b, 0, none⟩) M.ni c) (hn : 0 < M.ni) (q : Nat) (v : Nat × Nat) : MI w0 n A X O ((W.setCell ⟨b, q * 2, none⟩ (.int .u64 (v.1 : Nat))).setCell ⟨b, q * 2 + 1, none⟩ (.int .u64 (v.2 : Nat))) { M with wi := up M.wi q v } vS vW vE vF vI wb fb := by
  have hb : O b = 7 := h.wth.2 b (by rw [hv]; rfl)
  have k : Ch 7 O O W ((W.setCell ⟨b, q * 2, none⟩ (.int .u64 (v.1 : Nat))).setCell ⟨b, q * 2 + 1, none⟩ (.int .u64 (v.2 : Nat))) := (Ch.set hb _ _).trans (Ch.set hb _ _)
  exact ⟨(k.base h.base h.zero (by omega)).1, (k.base h.base h.zero (by omega)).2, h.reps.keep k (by omega), fun j hj => ⟨(h.rp j hj).1.on (k.block _ (h.rp j hj).1.lt (by rw [(h.rp j hj).2]; omega)), (k.col _ (h.rp j hj).1.lt).trans (h.rp j hj).2⟩, h.told.keep k (by omega), h.seen.keep k (by omega), h.who.keep k (by omega), fun i hi => (h.whr i hi).keep k (by omega), h.eps.keep k (by omega), h.frm.keep k (by omega), fun i hi => (h.frr i hi).keep k (by omega), ((h.wth.set hn b c hv (q * 2) _).set hn b c hv (q * 2 + 1) _).congr (fun j _ => (tagF_up M.wi q v j).symm), fun b f e => (h.hd b f e).keep k (by omega)⟩
end
end Go.Proofs.Ytfmndfgdchhaeaa

/- ReplicaMeets: the law's walk. -/
namespace Go.Proofs.Ytfmndfgdchhaeaa
open Go.RowKit Go.Maps
set_option maxRecDepth 100000
set_option maxRecDepth 100000

theorem into9_any (i : Int) (n : Nat) (hn : 1 ≤ n) (hn2 : n ≤ 1000) (w : World) : Calls Try.prog 4 #[.int .i64 i, .int .i64 (n : Nat)] w fun e w' => (∃ k : Nat, e = .returned (.int .i64 (k : Nat)) ∧ k < n) ∧ w = w' := by
  have t1 := Int.tmod_lt_of_pos i (show (0 : Int) < (n : Int) by omega)
  have t2 := Int.lt_tmod_of_pos i (show (0 : Int) < (n : Int) by omega)
  have hw : IntKind.i64.wrap (Int.tmod i (n : Int)) = Int.tmod i (n : Int) := by rw [IntKind.wrap_i64]; omega
  have hnz : ¬ ((n : Int) = 0) := by omega
  have hnz2 : ((n : Int) == 0) = false := by simp; omega
  by_cases hneg : Int.tmod i (n : Int) < 0
  · obtain ⟨k, hk, hk2⟩ : ∃ k : Nat, Int.tmod i (n : Int) + (n : Int) = (k : Int) ∧ k < n := ⟨(Int.tmod i n + n).toNat, by omega, by omega⟩
    have hw2 : IntKind.i64.wrap (k : Int) = (k : Int) := by rw [IntKind.wrap_i64]; omega
    have HK := hide hk2
    clear hk2
    go_enter Try.func4, Try.ntmps4
    go_wp2_with fail
    go_ret
    exact ⟨⟨k, rfl, HK.out⟩, rfl⟩
  · obtain ⟨k, hk, hk2⟩ : ∃ k : Nat, Int.tmod i (n : Int) = (k : Int) ∧ k < n := ⟨(Int.tmod i n).toNat, by omega, by omega⟩
    rw [hk] at hw hneg
    have HK := hide hk2
    clear hk2
    go_enter Try.func4, Try.ntmps4
    go_wp2_with fail
    go_ret
    exact ⟨⟨k, rfl, HK.out⟩, rfl⟩
def rp0 : Rp := ⟨0, 0, 0, [118], 0⟩
/-- While the copies are made. -/
structure PI (w0 : World) (O : Nat → Nat) (W : World) (RB : Nat → Nat) (v : Value) (i : Nat) : Prop where
  base : w0.Since w0.heap.size W
  zero : ∀ k, k < w0.heap.size → O k = 0
  reps : Li O 1 W 27 1 v i (fun k => .pointer (some ⟨RB k, 0, none⟩))
  rp : ∀ k, k < i → RpIs W (RB k) rp0 ∧ O (RB k) = 10 + 3 * k
theorem PI.new {w0 W : World} {O : Nat → Nat} {RB : Nat → Nat} {v : Value} {i : Nat} (h : PI w0 O W RB v i) (hi : i ≤ 1000) :
    Calls Try.prog 5 #[.slice (some ⟨W.heap.size, 0, none⟩) 1 1] (byteW W 118) fun e w1 => ∃ rb, e = .returned (.pointer (some ⟨rb, 0, none⟩)) ∧ ∃ a c w2, Hid ((Builtin.append_ #[26, 26] 26 #[v, .slice (some ⟨w1.heap.size, 0, none⟩) 1 1]).run Try.prog (w1.alloc (.cells #[.pointer (some ⟨rb, 0, none⟩)] 27)) = .ok (.slice a (i + 1) c) w2) ∧ Hid (∃ O2 RB2, PI w0 O2 w2 RB2 (.slice a (i + 1) c) (i + 1)) := by
  refine (new_any (some ⟨W.heap.size, 0, none⟩) 1 1 (fun _ => 118) _ (byteW_byt W 118) (fun _ => by decide) (fun e => by cases e) (by decide)).mono fun e w1 ⟨rb, he, h1, h2, h3⟩ => ⟨rb, he, ?_⟩
  have s1 : W.Since W.heap.size w1 := (byteW_since W 118).trans (since_mono h3 (byteW_since W 118).size)
  have hrb : W.heap.size ≤ rb := by have := (byteW_since W 118).size; omega
  have k1 : Ch 9 O (fun k => if k < W.heap.size then O k else 10 + 3 * i) W w1 := ⟨s1.os, s1.tape, s1.output, s1.size, fun k hk => if_pos hk, fun k hk _ => s1.block k hk⟩
  obtain ⟨v', w2, e2, k, hl⟩ := (h.reps.keep k1 (by omega)).app (P := Try.prog) Try.underlying26 infoP rfl (by decide) [.pointer (some ⟨rb, 0, none⟩)] rfl (by simp [Value.oneCell']) (by omega) (by omega)
  obtain ⟨a, c, rfl⟩ := hl.form
  obtain ⟨b1, z1⟩ := k1.base h.base h.zero (by omega)
  obtain ⟨b2, z2⟩ := k.base b1 z1 (by omega)
  refine ⟨a, c, w2, e2, _, up RB i rb, b2, z2, hl.congr (fun j hj => ?_), fun j hj => ?_⟩
  · show (if j < i * 1 then Value.pointer (some ⟨RB j, 0, none⟩) else ([.pointer (some ⟨rb, 0, none⟩)] : List Value).getD (j - i * 1) undef) = .pointer (some ⟨up RB i rb j, 0, none⟩)
    by_cases q : j < i * 1
    · rw [if_pos q, up_ne _ _ _ (by omega)]
    · obtain rfl : j = i := by omega
      rw [if_neg q, up_same, Nat.mul_one, Nat.sub_self]
      rfl
  · by_cases q : j < i
    · rw [up_ne _ _ _ (by omega)]
      obtain ⟨r1, r2⟩ := h.rp j q
      have hlt := r1.lt
      have r3 := r1.on (k1.block _ hlt (by rw [r2]; omega))
      have c3 := (k1.col _ hlt).trans r2
      have hlt2 := r3.lt
      exact ⟨r3.on (k.block _ hlt2 (by rw [c3]; omega)), (k.col _ hlt2).trans c3⟩
    · obtain rfl : j = i := by omega
      rw [up_same]
      have c3 : (if rb < W.heap.size then O rb else 10 + 3 * j) = 10 + 3 * j := if_neg (by omega)
      have hlt2 := h2.lt
      exact ⟨RpIs.on h2 (k.block _ hlt2 (by rw [c3]; omega)), (k.col _ hlt2).trans c3⟩
theorem make_tags (n : Nat) (hn : n ≤ 1000) (w : World) : (Instr.makeSlice 30 (.int .i64 (n : Nat)) (.int .i64 (n : Nat))).run Try.prog w = .ok (.slice (some ⟨w.heap.size, 0, none⟩) n n) (w.alloc (.cells (madeCells #[.int .u64 0, .int .u64 0] (n * 2)) 37)) := by
  obtain ⟨i, hi, hh⟩ := Option.map_eq_some_iff.1 infoT
  simp only [Prod.mk.injEq] at hh
  obtain ⟨hz, hs, hb⟩ := hh
  have r := run_make (P := Try.prog) w 30 37 i _ Try.underlying30 hi hz .i64 .i64 (n : Nat) (n : Nat) (by omega) (Int.le_refl _) (by rw [hb]; omega) (by omega)
  rw [hs, Int.toNat_natCast] at r
  exact r
theorem tags_row (w : World) (n : Nat) : (w.alloc (.cells (madeCells #[.int .u64 0, .int .u64 0] (n * 2)) 37)).rowIs w.heap.size 37 (n * 2) (tagF (fun _ => (0, 0))) := by
  have hs : (madeCells #[.int .u64 0, .int .u64 0] (n * 2)).size = n * 2 := size_madeCells _ _
  have r := World.rowIs_alloc w (madeCells #[.int .u64 0, .int .u64 0] (n * 2)) 37 (tagF (fun _ => (0, 0))) (fun j hj => by
    rw [hs] at hj
    have h2 : j % 2 < 2 := Nat.mod_lt _ (by decide)
    unfold madeCells
    rw [Array.getElem?_map, Array.getElem?_range]
    rw [if_pos hj]
    show some ((#[.int .u64 0, .int .u64 0] : Array Value)[j % 2]!) = _
    unfold tagF
    rcases Nat.lt_succ_iff_lt_or_eq.1 h2 with h | h
    · have : j % 2 = 0 := by omega
      rw [this]; rfl
    · rw [h]; rfl)
  rw [hs] at r
  exact r
def ms0 : Ms := ⟨fun _ => rp0, fun _ => (0, 0), 0, fun _ => (0, 0), 0, fun _ _ => false, 0, fun _ => 0, 0, fun _ _ => false, 0, fun _ => (0, 0)⟩
theorem iv0 (n : Nat) : Iv n ms0 := ⟨rfl, rfl, rfl, fun _ _ => tle_refl _, fun i hi => absurd hi (Nat.not_lt_zero i), fun i hi => absurd hi (Nat.not_lt_zero i), fun i hi => absurd hi (Nat.not_lt_zero i)⟩
/-- Where the law's loop stands. -/
def LS (w0 : World) (n : Nat) (A : Ad) (W : World) (v8 v9 v10 v11 v12 : Value) (ns ne i : Nat) : Prop := ∃ O M wb fb, MI w0 n A none O W M v8 v9 v10 v11 v12 wb fb ∧ Iv n M ∧ M.ns = ns ∧ M.ne = ne ∧ ns ≤ i ∧ ne ≤ i
theorem ls_start {w0 W : World} {O : Nat → Nat} {RB : Nat → Nat} {g n lc : Nat} (h : PI w0 O W RB (.slice (some ⟨g, 0, none⟩) n lc) n) : LS w0 n ⟨g, lc, RB, W.heap.size⟩ (W.alloc (.cells (madeCells #[.int .u64 0, .int .u64 0] (n * 2)) 37)) (.slice none 0 0) (.slice none 0 0) (.slice none 0 0) (.slice none 0 0) (.slice none 0 0) 0 0 0 := by
  have hr := tags_row W n
  have s : W.Since W.heap.size (W.alloc (.cells (madeCells #[.int .u64 0, .int .u64 0] (n * 2)) 37)) := (World.Since.refl _ _).alloc (Nat.le_refl _) _
  generalize W.alloc (.cells (madeCells #[.int .u64 0, .int .u64 0] (n * 2)) 37) = W2 at *
  have k : Ch 9 O (fun k => if k < W.heap.size then O k else 2) W W2 := ⟨s.os, s.tape, s.output, s.size, fun k hk => if_pos hk, fun k hk _ => s.block k hk⟩
  obtain ⟨b1, z1⟩ := k.base h.base h.zero (by omega)
  exact ⟨_, ms0, fun _ => 0, fun _ => 0, ⟨b1, z1, h.reps.keep k (by omega), fun j hj => ⟨(h.rp j hj).1.on (k.block _ (h.rp j hj).1.lt (by rw [(h.rp j hj).2]; omega)), (k.col _ (h.rp j hj).1.lt).trans (h.rp j hj).2⟩, ⟨hr, if_neg (Nat.lt_irrefl _)⟩, Li.nil _ _ _ _ _ _, Li.nil _ _ _ _ _ _, fun i hi => absurd hi (Nat.not_lt_zero i), Li.nil _ _ _ _ _ _, Li.nil _ _ _ _ _ _, fun i hi => absurd hi (Nat.not_lt_zero i), Li.nil _ _ _ _ _ _, fun _ _ e => by cases e⟩, iv0 n, rfl, rfl, Nat.le_refl _, Nat.le_refl _⟩
theorem hd_at {v : World} {hb : Nat} {f0 : Nat → Value} (r6 : v.rowIs hb 49 25 f0) (m : Mg) (va : Option Addr) (vc : Nat) (b1 b2 b3 : Bool) : ∃ (W : World) (HA : Array Value), Hid (hdV m va vc b1 b2 b3 = .agg HA) ∧ Hid (v.there hb 0 HA.size) ∧ Hid (v.setCells hb 0 HA.toList = W) ∧ Hid ((Try.prog.info? 49).map (·.size) = some HA.size) ∧ Hid (HA.all (·.oneCell') = true) ∧ W.rowIs hb 49 25 (hdCell m va vc b1 b2 b3) ∧ W.heap.size = v.heap.size ∧ (∀ k, k ≠ hb → W.heap[k]? = v.heap[k]?) ∧ W.os = v.os ∧ W.tape = v.tape ∧ W.output = v.output := by
  obtain ⟨W, HW, h7, z7, b7, o7, t7, p7⟩ := cells_stored r6 (hdL m va vc b1 b2 b3) (hdL_len _ _ _ _ _ _)
  have hms : (hdL m va vc b1 b2 b3).toArray.size = 25 := by rw [List.size_toArray, hdL_len]
  refine ⟨W, (hdL m va vc b1 b2 b3).toArray, rfl, ?_, HW, infoHrA _ _ _ _ _ _, hd_all _ _ _ _ _ _, hd_cells h7 rfl, z7, b7, o7, t7, p7⟩
  show World.there _ _ _ _
  rw [hms]
  exact row_there r6
def HdF (f : Nat → Value) (a : Mg) : Prop := f 0 = .int .i64 (a.n 0) ∧ f 4 = .int .u64 (a.n 4) ∧ f 5 = .int .u64 (a.n 5) ∧ f 6 = .int .u64 (a.n 6)
section
variable {w0 : World} {n : Nat} {A : Ad} {O : Nat → Nat} {W : World} {M : Ms} {vS vW vE vF vI : Value} {wb fb : Nat → Nat}
theorem MI.cells {hb : Nat} {f : Nat → Value} (h : MI w0 n A (some (hb, f)) O W M vS vW vE vF vI wb fb) (q : Nat) (hq : q < n) : W.cell? ⟨A.T, q * 2, none⟩ = some (.int .u64 ((M.tl q).1 : Nat)) ∧ W.cell? ⟨A.T, q * 2 + 1, none⟩ = some (.int .u64 ((M.tl q).2 : Nat)) ∧ W.cell? ⟨hb, 4, none⟩ = some (f 4) ∧ W.cell? ⟨hb, 5, none⟩ = some (f 5) ∧ W.cell? ⟨hb, 6, none⟩ = some (f 6) := by
  have r := (h.hd _ _ rfl).1
  refine ⟨?_, ?_, r.cell (i := 4) (by decide), r.cell (i := 5) (by decide), r.cell (i := 6) (by decide)⟩
  · rw [h.told.1.cell (i := q * 2) (by omega), tagF0]
  · rw [h.told.1.cell (i := q * 2 + 1) (by omega), tagF1]
theorem MI.toldThere {X : Option (Nat × (Nat → Value))} (h : MI w0 n A X O W M vS vW vE vF vI wb fb) (q : Nat) (hq : q < n) : W.there A.T (q * 2) 2 := fun j hj => ⟨by rw [h.told.1.cell (i := q * 2 + j) (by omega)]; rfl, h.told.1.frozen _⟩
/-- A tag and its row are appended. -/
theorem MI.appSW {X : Option (Nat × (Nat → Value))} (h : MI w0 n A X O W M vS vW vE vF vI wb fb) (v : Nat × Nat) (hn : M.ns ≤ 1000) (he : M.nw = M.ns) (h1 : n ≤ 1000) :
    ∃ a c W3, Hid ((Builtin.append_ #[30, 30] 30 #[vS, .slice (some ⟨W.heap.size, 0, none⟩) 1 1]).run Try.prog (W.alloc (.cells #[.int .u64 (v.1 : Nat), .int .u64 (v.2 : Nat)] 37)) = .ok (.slice a (M.ns + 1) c) W3) ∧ ∃ rb W4, Hid ((Instr.makeSlice 53 (.int .i64 (n : Nat)) (.int .i64 (n : Nat))).run Try.prog W3 = .ok (.slice (some ⟨rb, 0, none⟩) n n) W4) ∧
      ∃ a2 c2 W5, Hid ((Builtin.append_ #[31, 31] 31 #[vW, .slice (some ⟨W4.heap.size, 0, none⟩) 1 1]).run Try.prog (W4.alloc (.cells #[.slice (some ⟨rb, 0, none⟩) n n] 53)) = .ok (.slice a2 (M.ns + 1) c2) W5) ∧ Hid (∃ O2, MI w0 n A X O2 W5 (M.tag v).row (.slice a (M.ns + 1) c) (.slice a2 (M.ns + 1) c2) vE vF vI (up wb M.ns rb) fb) := by
  obtain ⟨a, c, W3, e1, O1, h3⟩ := h.appS v hn
  obtain ⟨a2, c2, W5, e2, O2, h5⟩ := h3.appW (by show M.nw ≤ 1000; omega)
  have hmk := run_make_row' (P := Try.prog) 53 4 (.bool false) 1 Try.underlying53 infoB rfl .i64 .i64 n (by omega) (by omega) W3
  have e2' : (M.tag v).nw = M.ns := he
  rw [e2'] at e2 h5
  exact ⟨a, c, W3, e1, _, _, hmk, a2, c2, W5, e2, O2, h5⟩
/-- An epoch, its row and its tag are appended. -/
theorem MI.appEFI {X : Option (Nat × (Nat → Value))} (h : MI w0 n A X O W M vS vW vE vF vI wb fb) (E : Nat) (hn : M.ne ≤ 1000) (hf : M.nf = M.ne) (hi : M.ni = M.ne) (h1 : n ≤ 1000) :
    ∃ a c W3, Hid ((Builtin.append_ #[32, 32] 32 #[vE, .slice (some ⟨W.heap.size, 0, none⟩) 1 1]).run Try.prog (W.alloc (.cells #[.int .u64 (E : Nat)] 33)) = .ok (.slice a (M.ne + 1) c) W3) ∧ ∃ rb W4, Hid ((Instr.makeSlice 53 (.int .i64 (n : Nat)) (.int .i64 (n : Nat))).run Try.prog W3 = .ok (.slice (some ⟨rb, 0, none⟩) n n) W4) ∧
      ∃ a2 c2 W5, Hid ((Builtin.append_ #[31, 31] 31 #[vF, .slice (some ⟨W4.heap.size, 0, none⟩) 1 1]).run Try.prog (W4.alloc (.cells #[.slice (some ⟨rb, 0, none⟩) n n] 53)) = .ok (.slice a2 (M.ne + 1) c2) W5) ∧
      ∃ a3 c3 W6, Hid ((Builtin.append_ #[30, 30] 30 #[vI, .slice (some ⟨W5.heap.size, 0, none⟩) 1 1]).run Try.prog (W5.alloc (.cells #[.int .u64 0, .int .u64 0] 37)) = .ok (.slice a3 (M.ne + 1) c3) W6) ∧ Hid (∃ O2, MI w0 n A X O2 W6 ((M.epo E).frw).wit vS vW (.slice a (M.ne + 1) c) (.slice a2 (M.ne + 1) c2) (.slice a3 (M.ne + 1) c3) wb (up fb M.ne rb)) := by
  obtain ⟨a, c, W3, e1, O1, h3⟩ := h.appE E hn
  obtain ⟨a2, c2, W5, e2, O2, h5⟩ := h3.appF (by show M.nf ≤ 1000; omega)
  have e2' : (M.epo E).nf = M.ne := hf
  rw [e2'] at e2 h5
  obtain ⟨a3, c3, W6, e3, O3, h6⟩ := h5.appI (by show M.ni ≤ 1000; omega)
  have hmk := run_make_row' (P := Try.prog) 53 4 (.bool false) 1 Try.underlying53 infoB rfl .i64 .i64 n (by omega) (by omega) W3
  have e3' : ((M.epo E).frw).ni = M.ne := hi
  rw [e3'] at e3 h6
  exact ⟨a, c, W3, e1, _, _, hmk, a2, c2, W5, e2, a3, c3, W6, e3, O3, h6⟩
end
set_option maxHeartbeats 16000000 in
theorem meets_any {w : World} {oa : Option Addr} {on oc : Nat} {O : Nat → Od} (cp : Int) (hO : OpsIn w oa on O) (hon : on ≤ 1000000000000) :
    Calls Try.prog 3 #[.agg #[.int .i64 cp, .slice oa on oc]] w fun e w' => e = .returned (.bool true) ∧ w.Since w.heap.size w' := by
  obtain ⟨W0, HW0⟩ : ∃ W, Hid (w.alloc (.cells #[.int .i64 cp, .slice oa on oc] 24) = W) := ⟨_, rfl⟩
  have s00 : w.Since w.heap.size W0 := by rw [← HW0.out]; exact (World.Since.refl _ _).alloc (Nat.le_refl _) _
  have a0 : W0.cell? ⟨w.heap.size, 0, none⟩ = some (.int .i64 cp) := by rw [← HW0.out]; simp
  have a1 : W0.cell? ⟨w.heap.size, 1, none⟩ = some (.slice oa on oc) := by rw [← HW0.out]; simp
  have HO : Hid (OpsIn W0 oa on O) := hO.since s00
  have HC1 : Hid (∀ W, W0.Since W0.heap.size W → W.cell? ⟨w.heap.size, 1, none⟩ = some (.slice oa on oc)) := fun W h => cell_later h a1
  have HFN : Hid (∀ W, W0.Since W0.heap.size W → w.Since w.heap.size W) := fun W h => s00.trans (since_mono h s00.size)
  obtain ⟨sb, HSB⟩ : ∃ x, Hid (w.heap.size = x) := ⟨_, rfl⟩
  rw [HSB.out] at a0 HC1
  have HON := hide hon
  have HIN : Hid (Calls Try.prog 4 #[.int .i64 cp, .int .i64 3] W0 fun e w' => ∃ x y n : Nat, e = .returned (.int .i64 (x : Nat)) ∧ 2 * (x : Int) = (y : Int) ∧ 1 + (y : Int) = (n : Int) ∧ IntKind.i64.wrap (y : Int) = (y : Int) ∧ IntKind.i64.wrap (n : Int) = (n : Int) ∧ Hid (1 ≤ n ∧ n ≤ 5) ∧ W0 = w') :=
    (into9_any cp 3 (by decide) (by decide) W0).mono fun e w' ⟨⟨x, he, hx⟩, h2⟩ => ⟨x, 2 * x, 1 + 2 * x, he, by omega, by omega, by rw [IntKind.wrap_i64]; omega, by rw [IntKind.wrap_i64]; omega, ⟨by omega, by omega⟩, h2⟩
  clear hO s00 a1 hon
  go_enter Try.func3, Try.ntmps3
  go_upto_region 1 with fail
  rw [HW0.out, HSB.out]
  clear HW0 HSB
  go_upto_region 2 with (go_at_call 4; refine HIN.out.mono ?_; rintro e wq ⟨x, y, n, rfl, h2x, h1y, wy, wn, HNN, rfl⟩)
  clear HIN a0 h2x h1y wy wn
  have HP0 : Hid (∃ O RB, PI W0 O W0 RB (.slice none 0 0) 0) := ⟨fun _ => 0, fun _ => 0, World.Since.refl _ _, fun _ _ => rfl, Li.nil _ _ _ _ _ _, fun j hj => absurd hj (Nat.not_lt_zero j)⟩
  go_wp2_with fail
  go_loopg [4, 5, 6] n (fun q s4 s5 s6 wx => ∃ (i : Nat) (a : Option Addr) (c : Nat), i ≤ n ∧ q = n - i ∧ s4 = .slice a i c ∧ s5 = .int .i64 (i : Nat) ∧ Hid (∃ O RB, PI W0 O wx RB (.slice a i c) i))
  case atStart => exact ⟨0, none, 0, Nat.zero_le _, rfl, rfl, rfl, HP0⟩
  case round =>
    clear HP0
    obtain ⟨i, a, c, hi, rfl, rfl, rfl, HX⟩ := hrel
    by_cases hlt : i < n
    · have z1 : (i : Int) < (n : Int) := by omega
      have HM := hide (show Calls Try.prog 5 #[.slice (some ⟨wr.heap.size, 0, none⟩) 1 1] (byteW wr 118) _ from by
        obtain ⟨O, RB, h⟩ := HX.out
        exact h.new (by have := HNN.out; omega))
      have hcv : (convert 29 29 (.slice (some ⟨wr.heap.size, 0, none⟩) 1 1)).run Try.prog (wr.alloc (.cells #[.int .u8 118] 5)) = .ok (.slice (some ⟨wr.heap.size, 0, none⟩) 1 1) (byteW wr 118) := conv_byte wr 118
      have hwi : IntKind.i64.wrap ((i : Int) + 1) = (i : Int) + 1 := by have := HNN.out; rw [IntKind.wrap_i64]; omega
      have hme : n - (i + 1) < n - i := by omega
      have hi1 : i + 1 ≤ n := by omega
      clear HX hi hlt
      go_wp2_with (first
        | (go_at_call 5; refine HM.out.mono ?_; rintro e w4 ⟨rb, rfl, a', c', w6, HP, HK⟩)
        | (at_builtin; refine wpList_append_eq rfl _ _ 26 rfl _ _ _ (by rfl) (by rfl) HP.out ?_))
      go_roundg (n - (i + 1))
      case measure => go_light; exact hme
      case rel => go_light; exact ⟨i + 1, a', c', hi1, rfl, rfl, by simp, HK⟩
    · obtain rfl : i = n := by omega
      have z1 : ¬ (i : Int) < (i : Int) := by omega
      obtain ⟨g, lc, RB, T, W5, HE, HT5, HW5, HLS⟩ : ∃ g lc RB T W5, Hid (Value.slice a i c = .slice (some ⟨g, 0, none⟩) i lc) ∧ Hid (wr.heap.size = T) ∧ Hid (wr.alloc (.cells (madeCells #[.int .u64 0, .int .u64 0] (i * 2)) 37) = W5) ∧ Hid (LS W0 i ⟨g, lc, RB, T⟩ W5 (.slice none 0 0) (.slice none 0 0) (.slice none 0 0) (.slice none 0 0) (.slice none 0 0) 0 0 0) := by
        obtain ⟨O, RB, h⟩ := HX.out
        obtain ⟨b, cap, F, hv, _⟩ := h.reps.at' (by have := HNN.out; omega)
        rw [hv] at h
        exact ⟨b, cap, RB, _, _, hv, rfl, rfl, ls_start h⟩
      have hmk := make_tags i (by have := HNN.out; omega)
      have hE := HE.out
      injection hE with ea _ ec
      subst ea ec
      clear HX hi hlt HE
      generalize wr = wrO at *
      generalize i = n at *
      generalize c = lc at *
      go_upto_region 11 with fail
      rw [HW5.out, HT5.out]
      clear HW5 HT5 hmk z1
      go_upto_block 2 with fail
      go_cut [8, 9, 10, 11, 12, 13, 14, 15, 16, 17, 18] from 42 to 185 (fun s8 s9 s10 s11 s12 s13 s14 s15 s16 s17 s18 wx => ∃ (ns ne : Nat) (a8 a9 a10 a11 a12 : Option Addr) (c8 c9 c10 c11 c12 : Nat), s8 = .slice a8 ns c8 ∧ s9 = .slice a9 ns c9 ∧ s10 = .slice a10 ne c10 ∧ s11 = .slice a11 ne c11 ∧ s12 = .slice a12 ne c12 ∧ Hid (LS W0 n ⟨g, lc, RB, T⟩ wx (.slice a8 ns c8) (.slice a9 ns c9) (.slice a10 ne c10) (.slice a11 ne c11) (.slice a12 ne c12) ns ne 200))
      case first =>
        go_wp2_with fail
        go_loopg [8, 9, 10, 11, 12, 13, 14, 15, 16, 17, 18] on (fun q s8 s9 s10 s11 s12 s13 s14 s15 s16 s17 s18 wx => ∃ (i ns ne : Nat) (a8 a9 a10 a11 a12 : Option Addr) (c8 c9 c10 c11 c12 : Nat), i ≤ on ∧ i ≤ 200 ∧ q = on - i ∧ s8 = .slice a8 ns c8 ∧ s9 = .slice a9 ns c9 ∧ s10 = .slice a10 ne c10 ∧ s11 = .slice a11 ne c11 ∧ s12 = .slice a12 ne c12 ∧ s13 = .int .i64 (i : Nat) ∧ Hid (LS W0 n ⟨g, lc, RB, T⟩ wx (.slice a8 ns c8) (.slice a9 ns c9) (.slice a10 ne c10) (.slice a11 ne c11) (.slice a12 ne c12) ns ne i))
        case atStart => exact ⟨0, 0, 0, none, none, none, none, none, 0, 0, 0, 0, 0, Nat.zero_le _, Nat.zero_le _, rfl, rfl, rfl, rfl, rfl, rfl, rfl, HLS⟩
        case round =>
          clear HLS
          obtain ⟨i, ns, ne, a8, a9, a10, a11, a12, c8, c9, c10, c11, c12, hi, hi2, rfl, rfl, rfl, rfl, rfl, rfl, rfl, HX⟩ := hrel
          obtain ⟨OO, M, wb, fb, hMI, hIv, hMns, hMne, hnsi, hnei⟩ := HX.out
          have hsi := hMI.base
          by_cases hlt : i < on ∧ i < 200
          · obtain ⟨hlt, hl2⟩ := hlt
            obtain ⟨db, oo, rfl, hrg, hob⟩ := (HO.out.since hsi).at' i hlt
            have c1 : wr.cell? ⟨sb, 1, none⟩ = some (.slice (some ⟨db, oo, none⟩) on oc) := HC1.out wr hsi
            have z1 : (i : Int) < (on : Int) := by omega
            have z2 : (i : Int) < 200 := by omega
            have z3 : (0 : Int) ≤ (i : Int) := by omega
            have hon : (on : Int) ≤ 1000000000000 := by have := HON.out; omega
            have HI1 : Hid (i + 1 ≤ on ∧ i + 1 ≤ 200 ∧ ns ≤ i ∧ ne ≤ i) := ⟨by omega, by omega, hnsi, hnei⟩
            have hme : on - (i + 1) < on - i := by omega
            have hwi : IntKind.i64.wrap ((i : Int) + 1) = (i : Int) + 1 := by rw [IntKind.wrap_i64]; omega
            have q0 : wr.cell? ⟨db, oo + i * 30, none⟩ = some (.int .i64 (O i).d) := hrg 0 _ rfl
            have q1 : wr.cell? ⟨db, oo + i * 30 + 1, none⟩ = some (.int .i64 (O i).wh) := hrg 1 _ rfl
            have HRG : Hid (wr.rangeAt db (oo + i * 30 + 4) (mgL (O i).m (O i).va (O i).vc)) := fun j v hv => by
              have hj : j < 22 := by have := (List.getElem?_eq_some_iff.1 hv).1; rw [mgL_len] at this; exact this
              have := hrg (4 + j) v (by rw [opL_m _ _ hj]; exact hv)
              rw [← Nat.add_assoc] at this
              exact this
            obtain ⟨hA, hN, _⟩ := (HO.out.since hsi).ok i hlt
            have HA := hide hA
            have HN := hide hN
            have HM : Hid (MI W0 n ⟨g, lc, RB, T⟩ none OO wr M (.slice a8 ns c8) (.slice a9 ns c9) (.slice a10 ne c10) (.slice a11 ne c11) (.slice a12 ne c12) wb fb) := hMI
            have HIV := hide hIv
            have HMN : Hid (M.ns = ns ∧ M.ne = ne) := ⟨hMns, hMne⟩
            have HK : Hid (∀ W, Calls Try.prog 4 #[.int .i64 (O i).wh, .int .i64 (n : Nat)] W fun e w' => (∃ k : Nat, e = .returned (.int .i64 (k : Nat)) ∧ k < n) ∧ W = w') := fun W => into9_any _ n HNN.out.1 (by have := HNN.out; omega) W
            obtain ⟨od, hod⟩ : ∃ x, (O i).d = x := ⟨_, rfl⟩
            obtain ⟨ow, how⟩ : ∃ x, (O i).wh = x := ⟨_, rfl⟩
            rw [hod] at q0
            rw [how] at q1 HK
            obtain ⟨m, hm⟩ : ∃ x, (O i).m = x := ⟨_, rfl⟩
            obtain ⟨va, hva⟩ : ∃ x, (O i).va = x := ⟨_, rfl⟩
            obtain ⟨vc, hvc⟩ : ∃ x, (O i).vc = x := ⟨_, rfl⟩
            rw [hm, hva, hvc] at HRG HA
            rw [hm] at HN
            clear hod how hm hva hvc hA hN hMI hIv hMns hMne hnsi hnei hrg hob hsi HX hi hi2 hlt hl2
            go_upto_region 20 with (go_at_call 4; refine (HK.out _).mono ?_; rintro e wq ⟨⟨kk, rfl, hkk⟩, rfl⟩)
            have HKK := hide hkk
            have zk : (kk : Int) < (n : Int) := by omega
            have zk0 : (0 : Int) ≤ (kk : Int) := by omega
            have lk : wr.cell? ⟨g, kk, none⟩ = some (.pointer (some ⟨RB kk, 0, none⟩)) := by
              obtain ⟨b, cap, F, hv, h1, _, h3, h4⟩ := HM.out.reps.at' (show 0 < n by have := HNN.out; omega)
              injection hv with e1 _ e2
              obtain rfl : g = b := congrArg Addr.block (Option.some.inj e1)
              have q := h3.1.cell (i := kk) (by omega)
              rw [h4 kk (by omega)] at q
              exact q
            clear q1 HK hkk
            by_cases hd : od = 2
            · as_aux_lemma =>
                subst hd
                have HT : Hid (Calls Try.prog 6 #[.pointer (some ⟨RB kk, 0, none⟩)] wr fun e w' => e = .returned (.tuple #[]) ∧ Hid (LS W0 n ⟨g, lc, RB, T⟩ w' (.slice a8 ns c8) (.slice a9 ns c9) (.slice a10 ne c10) (.slice a11 ne c11) (.slice a12 ne c12) ns ne (i + 1))) :=
                  (tick_any (HM.out.rp kk HKK.out).1).mono fun e w' ⟨he, h1, h2⟩ => ⟨he, OO, _, wb, fb, HM.out.rep kk HKK.out h2 h1, HIV.out.rep kk _ (Nat.le_refl _) (tle_refl _), HMN.out.1, HMN.out.2, by have := HI1.out; omega, by have := HI1.out; omega⟩
                clear HM HIV HMN HA HN HRG
                go_wp2_with (go_at_call 6; refine HT.out.mono ?_; rintro e w7 ⟨rfl, HY⟩)
                go_roundg (on - (i + 1))
                case measure => go_light; exact hme
                case rel => go_light; exact ⟨i + 1, ns, ne, a8, a9, a10, a11, a12, c8, c9, c10, c11, c12, HI1.out.1, HI1.out.2.1, rfl, rfl, rfl, rfl, rfl, rfl, by simp, HY⟩
            · have zd : (od == 2) = false := by simp [hd]
              obtain ⟨ML, HML⟩ : ∃ x, Hid ((mgL m va vc).toArray = x) := ⟨_, rfl⟩
              have HII : Hid ((Try.prog.info? 42).map (·.size) = some (mgL m va vc).length) := infoMg' _ _ _
              obtain ⟨H, hH⟩ : ∃ x, hearM (M.R kk) m = x := ⟨_, rfl⟩
              have HSF : Hid (SF (M.R kk) H) := by rw [← hH]; exact sf_hear _ m HN.out
              have HME : Hid (Calls Try.prog 7 #[.agg ML] wr fun e vm => ∃ (MA : Array Value) (Wm : World) (mb : Nat), e = .returned (.agg MA) ∧ Hid (vm.heap.size = mb) ∧ Hid ((vm.alloc mgZ).there vm.heap.size 0 MA.size) ∧ Hid ((vm.alloc mgZ).setCells vm.heap.size 0 MA.toList = Wm) ∧ Hid ((Try.prog.info? 42).map (·.size) = some MA.size) ∧ Hid (MA.all (·.oneCell') = true) ∧ Hid ((Try.prog.info? 42).map (·.size) = some MA.toList.length) ∧
                  Hid (∀ W', But (RB kk) Wm W' → W'.cell? ⟨g, kk, none⟩ = some (.pointer (some ⟨RB kk, 0, none⟩)) ∧ W'.rangeAt mb 0 MA.toList) ∧
                  Hid (∀ W, Wm.Since Wm.heap.size W → Calls Try.prog 8 #[.pointer (some ⟨RB kk, 0, none⟩), .agg MA] W fun e v => ∃ ga gc, e = .returned (hdV H.a ga gc H.b1 H.b2 H.b3) ∧ Hid (But (RB kk) W v ∧ RpIs v (RB kk) H.r)) ∧
                  Hid (∀ (v : World) ga gc, But (RB kk) Wm.drew v → RpIs v (RB kk) H.r → ∃ (W6 : World) (HA : Array Value), Hid (hdV H.a ga gc H.b1 H.b2 H.b3 = .agg HA) ∧ Hid ((v.alloc hdZ).there v.heap.size 0 HA.size) ∧ Hid ((v.alloc hdZ).setCells v.heap.size 0 HA.toList = W6) ∧ Hid ((Try.prog.info? 49).map (·.size) = some HA.size) ∧ Hid (HA.all (·.oneCell') = true) ∧ Hid (But (RB kk) Wm v) ∧ Hid (But (RB kk) Wm (v.alloc hdZ)) ∧ Hid (But (RB kk) Wm W6) ∧ Hid (∃ O2 f, MI W0 n ⟨g, lc, RB, T⟩ (some (v.heap.size, f)) O2 W6 (M.rep kk H.r) (.slice a8 ns c8) (.slice a9 ns c9) (.slice a10 ne c10) (.slice a11 ne c11) (.slice a12 ne c12) wb fb ∧ HdF f H.a)) ∧
                  Hid (∀ (v : World) ga gc, But (RB kk) (Wm.drew.alloc hdZ) v → RpIs v (RB kk) H.r → ∃ (W6 : World) (HA : Array Value), Hid (hdV H.a ga gc H.b1 H.b2 H.b3 = .agg HA) ∧ Hid (v.there Wm.drew.heap.size 0 HA.size) ∧ Hid (v.setCells Wm.drew.heap.size 0 HA.toList = W6) ∧ Hid ((Try.prog.info? 49).map (·.size) = some HA.size) ∧ Hid (HA.all (·.oneCell') = true) ∧ Hid (But (RB kk) Wm v) ∧ Hid (But (RB kk) Wm W6) ∧ Hid (∃ O2 f, MI W0 n ⟨g, lc, RB, T⟩ (some (Wm.drew.heap.size, f)) O2 W6 (M.rep kk H.r) (.slice a8 ns c8) (.slice a9 ns c9) (.slice a10 ne c10) (.slice a11 ne c11) (.slice a12 ne c12) wb fb ∧ HdF f H.a))) := by
                have hMI := HM.out
                have hgO : OO g = 1 := hMI.reps.2 g rfl
                have hrO := (hMI.rp kk HKK.out).2
                have hrl : RB kk < wr.heap.size := (hMI.rp kk HKK.out).1.lt
                have hgl := World.block_lt_of_cell? _ _ lk
                have hgl : g < wr.heap.size := hgl
                have hne : g ≠ RB kk := fun e => by rw [e] at hgO; have : OO (RB kk) = 10 + 3 * kk := hrO; omega
                rw [← HML.out]
                refine (copyMsg_any m va vc wr HA.out).mono fun e vm ⟨g2, he, hA2, hsm, hg2⟩ => ?_
                obtain ⟨Wm, HWm, rr, hh, z7, b7, o7, t7, q7⟩ := mg_stored (mgZ_row vm) m (some ⟨g2, 0, none⟩) (m.s 10).length
                have s6 : vm.Since vm.heap.size (vm.alloc mgZ) := (World.Since.refl _ _).alloc (Nat.le_refl _) _
                have sv : vm.Since vm.heap.size Wm := ⟨o7.trans s6.os, t7.trans s6.tape, q7.trans s6.output, by rw [z7]; exact s6.size, fun k hk => (b7 k (by omega)).trans (s6.block k hk)⟩
                have so : wr.Since wr.heap.size Wm := hsm.trans (since_mono sv hsm.size)
                have hsz := hsm.size
                have hms : (mgL m (some ⟨g2, 0, none⟩) (m.s 10).length).toArray.size = 22 := by rw [List.size_toArray, mgL_len]
                have hmbl : vm.heap.size < Wm.heap.size := rr.lt
                have dS : Wm.Since Wm.heap.size Wm.drew := (World.Since.refl _ _).drew
                have hM1 : MI W0 n ⟨g, lc, RB, T⟩ none OO Wm.drew M (.slice a8 ns c8) (.slice a9 ns c9) (.slice a10 ne c10) (.slice a11 ne c11) (.slice a12 ne c12) wb fb := (hMI.since so).since dS
                refine ⟨(mgL m (some ⟨g2, 0, none⟩) (m.s 10).length).toArray, Wm, vm.heap.size, he, rfl, by show World.there _ _ _ _; rw [hms]; exact row_there (mgZ_row vm), HWm, infoMgA _ _ _, mg_all _ _ _, infoMg' _ _ _, fun W' b => ⟨?_, fun j u hj => ?_⟩, fun W hW => ?_, fun v ga gc hb2 hr2 => ?_, fun v ga gc hb2 hr2 => ?_⟩
                · rw [World.cell?_of_block (a := ⟨g, kk, none⟩) (b.block g (by have := so.size; omega) hne)]
                  exact cell_later so lk
                · rw [World.cell?_of_block (a := ⟨vm.heap.size, 0 + j, none⟩) (b.block vm.heap.size hmbl (by omega))]
                  exact mgL_range rr j u hj
                · have hrp := ((hMI.since so).rp kk HKK.out).1.since hW
                  refine (hear_any hrp m (some ⟨g2, 0, none⟩) (m.s 10).length ((hA2.since sv).since hW) HN.out).mono fun e v ⟨ga, gc, he2, hr2, hb2, _⟩ => ?_
                  rw [hH] at he2 hr2
                  exact ⟨ga, gc, he2, hb2, hr2⟩
                · obtain ⟨W6, HA, HHV, HT6, HW6, HI6, HO6, HR6, HS6⟩ := hd_put v H.a ga gc H.b1 H.b2 H.b3
                  have hbv : But (RB kk) Wm v := (But.of_since dS).trans hb2
                  have hb6 : But (RB kk) Wm.drew W6 := hb2.sin HS6.out
                  obtain ⟨O2, h6⟩ := hM1.repHead kk HKK.out hb6 (hr2.since HS6.out) HR6.out hb2.size
                  exact ⟨W6, HA, HHV, HT6, HW6, HI6, HO6, hbv, hbv.sin ((World.Since.refl _ _).alloc (Nat.le_refl _) _), hbv.sin HS6.out, O2, _, h6, rfl, rfl, rfl, rfl⟩
                · have sA : Wm.drew.Since Wm.drew.heap.size (Wm.drew.alloc hdZ) := (World.Since.refl _ _).alloc (Nat.le_refl _) _
                  have hdz : Wm.drew.heap.size = Wm.heap.size := rfl
                  have hso := so.size
                  have hrow : v.rowIs Wm.drew.heap.size 49 25 (hdCell mg0 none 0 false false false) := hb2.row (hdZ_row Wm.drew) (by omega)
                  obtain ⟨W6, HA, HHV, HT6, HW6, HI6, HO6, HR6, z6, b6, o6, t6, p6⟩ := hd_at hrow H.a ga gc H.b1 H.b2 H.b3
                  have hbd : But (RB kk) Wm.drew v := (But.of_since sA).trans hb2
                  have hb6 : But (RB kk) Wm.drew W6 := ⟨o6.trans hbd.os, t6.trans hbd.tape, p6.trans hbd.output, by rw [z6]; exact hbd.size, fun k hk hn => (b6 k (by omega)).trans (hbd.block k hk hn)⟩
                  obtain ⟨O2, h6⟩ := hM1.repHead kk HKK.out hb6 (hr2.on (b6 _ (by omega))) HR6 (Nat.le_refl _)
                  exact ⟨W6, HA, HHV, HT6, HW6, HI6, HO6, (But.of_since dS).trans hbd, (But.of_since dS).trans hb6, O2, _, h6, rfl, rfl, rfl, rfl⟩
              clear HM HA HN hH
              go_upto_region 22 with fail
              refine wp_region_lit ?_
              refine wpList_plain rfl fun _ hK => op_run (.pointer (some ⟨sb, 1, none⟩)) (by kernel_rfl) (hK _ _ ?_)
              simp only [Act.put, List.setIfInBounds_toArray, List.set_cons_zero, List.set_cons_succ]
              refine wpList_plain rfl fun _ hK => op_run (.slice (some ⟨db, oo, none⟩) on oc) (by go_simp) (hK _ _ ?_)
              simp only [Act.put, List.setIfInBounds_toArray, List.set_cons_zero, List.set_cons_succ]
              refine wpList_plain rfl fun _ hK => op_run (.int .i64 (i : Nat)) (by kernel_rfl) (hK _ _ ?_)
              simp only [Act.put, List.setIfInBounds_toArray, List.set_cons_zero, List.set_cons_succ]
              refine wpList_plain rfl fun _ hK => op_run (.pointer (some ⟨db, oo + i * 30, none⟩)) (by go_simp) (hK _ _ ?_)
              simp only [Act.put, List.setIfInBounds_toArray, List.set_cons_zero, List.set_cons_succ]
              refine wpList_plain rfl fun _ hK => op_run (.pointer (some ⟨db, oo + i * 30 + 4, none⟩)) (by kernel_rfl) (hK _ _ ?_)
              simp only [Act.put, List.setIfInBounds_toArray, List.set_cons_zero, List.set_cons_succ]
              refine wpList_load_mid rfl 42 (.tmp 77) rfl db (oo + i * 30 + 4) rfl (mgL m va vc) _ HRG.out Try.underlying42 rfl HII.out ?_
              rw [HML.out]
              simp only [Act.put, List.setIfInBounds_toArray, List.set_cons_zero, List.set_cons_succ]
              refine wpList_plain rfl fun _ hK => op_call 7 #[.agg ML] (by kernel_rfl) HME.out ?_
              rintro e vm ⟨MA, Wm, mb, rfl, Hmb, HTM, HWM, HIM, HAM, HIR, HSB, HHE, HFA, HFB⟩
              refine ⟨_, rfl, hK _ _ ?_⟩
              simp only [Act.put, List.setIfInBounds_toArray, List.set_cons_zero, List.set_cons_succ]
              refine wpList_plain rfl fun _ hK => op_runW (w' := vm.alloc mgZ) (.pointer (some ⟨vm.heap.size, 0, none⟩)) (by kernel_rfl) (hK _ _ ?_)
              simp only [Act.put, List.setIfInBounds_toArray, List.set_cons_zero, List.set_cons_succ]
              refine wpList_store_mid rfl 42 (.tmp 15) (.tmp 79) rfl vm.heap.size 0 MA rfl rfl HTM.out HIM.out HAM.out ?_
              rw [HWM.out, Hmb.out]
              simp only [Act.put]
              clear hK HTM HWM HIM HAM HME HML HII Hmb c1 q0 HRG z1 z2 z3 hon
              go_upto_region 23 with fail
              go_cut [16] from 42 to 185 (fun s16 wx => ∃ hb : Nat, s16 = .pointer (some ⟨hb, 0, none⟩) ∧ Hid (∃ O2 f, MI W0 n ⟨g, lc, RB, T⟩ (some (hb, f)) O2 wx (M.rep kk H.r) (.slice a8 ns c8) (.slice a9 ns c9) (.slice a10 ne c10) (.slice a11 ne c11) (.slice a12 ne c12) wb fb ∧ HdF f H.a))
              case first =>
                as_aux_lemma =>
                  have hS0 : (Wm.drew).cell? ⟨g, kk, none⟩ = some (.pointer (some ⟨RB kk, 0, none⟩)) ∧ (Wm.drew).rangeAt mb 0 MA.toList := HSB.out Wm.drew ((But.of_since (World.Since.refl _ _)).drew)
                  have HS0 := hide hS0
                  clear hS0
                  refine wp_region_held_drew (S := fun W => W.cell? ⟨g, kk, none⟩ = some (.pointer (some ⟨RB kk, 0, none⟩)) ∧ W.rangeAt mb 0 MA.toList) (by kernel_rfl) HS0.out fun _ => ?_
                  refine wpAnyH_take (i := 0) (v := .slice (some ⟨g, 0, none⟩) n lc) rfl (by kernel_rfl) (by kernel_rfl) (by kernel_rfl) (fun _ _ _ h => h) (.inl ⟨rfl, fun W hW => by kernel_rfl⟩) HS0.out ?_
                  simp only [List.getElem_toArray, List.getElem_cons_zero, Act.put, List.setIfInBounds_toArray, List.set_cons_zero, List.set_cons_succ]
                  refine wpAnyH_take (i := 1) (v := .int .i64 (kk : Nat)) rfl (by kernel_rfl) (by kernel_rfl) (by kernel_rfl) (fun _ _ _ h => h) (.inl ⟨rfl, fun W hW => by kernel_rfl⟩) HS0.out ?_
                  simp only [List.getElem_toArray, List.getElem_cons_zero, List.getElem_cons_succ, Act.put, List.setIfInBounds_toArray, List.set_cons_zero, List.set_cons_succ]
                  refine wpAnyH_take (i := 2) (v := .pointer (some ⟨g, kk, none⟩)) rfl (by kernel_rfl) (by kernel_rfl) (by kernel_rfl) (fun _ _ _ h => h) (.inl ⟨rfl, fun W hW => by go_simp⟩) HS0.out ?_
                  simp only [List.getElem_toArray, List.getElem_cons_zero, List.getElem_cons_succ, Act.put, List.setIfInBounds_toArray, List.set_cons_zero, List.set_cons_succ]
                  refine wpAnyH_take (i := 3) (v := .pointer (some ⟨RB kk, 0, none⟩)) rfl (by kernel_rfl) (by kernel_rfl) (by kernel_rfl) (fun _ _ _ h => h) (.inl ⟨rfl, fun W hW => by have c := hW.1; go_simp⟩) HS0.out ?_
                  simp only [List.getElem_toArray, List.getElem_cons_zero, List.getElem_cons_succ, Act.put, List.setIfInBounds_toArray, List.set_cons_zero, List.set_cons_succ]
                  refine wpAnyH_take (i := 4) (v := .agg MA) rfl (by kernel_rfl) (by kernel_rfl) (by kernel_rfl) (fun _ _ _ h => h) (yieldsIf_load_mid rfl 42 (.tmp 15) rfl mb 0 rfl MA.toList _ (fun W hW => hW.2) Try.underlying42 rfl HIR.out) HS0.out ?_
                  simp only [List.getElem_toArray, List.getElem_cons_zero, List.getElem_cons_succ, Act.put, List.setIfInBounds_toArray, List.set_cons_zero, List.set_cons_succ]
                  refine wpAnyH_ready (rs := [5, 6]) (by kernel_rfl) (by simp) ?_
                  refine AllReadyH.cons rfl (fun K hK => ?_) ?_
                  · refine step_callW rfl 8 #[.pointer (some ⟨RB kk, 0, none⟩), .agg MA] (by kernel_rfl) (HHE.out _ ((World.Since.refl _ _).drew)) ?_
                    rintro e v ⟨ga, gc, rfl, HV⟩
                    obtain ⟨W6, HA, HHV, HTV, HWV, HIV2, HAV, HBV, HBA, HBW, HX6⟩ := HFA.out v ga gc HV.out.1 HV.out.2
                    refine ⟨_, rfl, hK.out _ _ (HSB.out v HBV.out) fun _ => ?_⟩
                    rw [HHV.out]
                    clear hK
                    simp only [List.getElem_toArray, List.getElem_cons_zero, List.getElem_cons_succ, Act.put, List.setIfInBounds_toArray, List.set_cons_zero, List.set_cons_succ]
                    refine wpAnyH_ready (rs := [6]) (by kernel_rfl) (by simp) ?_
                    refine AllReadyH.cons rfl (fun K hK => ?_) AllReadyH.nil
                    refine step_storeM rfl (op_runW (w' := v.alloc hdZ) (.pointer (some ⟨v.heap.size, 0, none⟩)) (by kernel_rfl) ?_)
                    refine hK.out _ _ (HSB.out _ HBA.out) fun _ => ?_
                    clear hK
                    simp only [List.getElem_toArray, List.getElem_cons_zero, List.getElem_cons_succ, Act.put, List.setIfInBounds_toArray, List.set_cons_zero, List.set_cons_succ]
                    refine wpAnyH_ready (rs := [7]) (by kernel_rfl) (by simp) ?_
                    refine AllReadyH.cons rfl (fun K hK => ?_) AllReadyH.nil
                    refine step_storeM rfl (wp_store_mid 49 (.tmp 16) (.tmp 85) rfl v.heap.size 0 HA rfl rfl HTV.out HIV2.out HAV.out ?_)
                    rw [HWV.out]
                    refine hK.out _ _ (HSB.out _ HBW.out) fun _ => ?_
                    simp only [List.getElem_toArray, List.getElem_cons_zero, List.getElem_cons_succ, Act.put]
                    refine wpAnyH_done (by kernel_rfl) ?_ _
                    clear hK
                    go_wp2_with fail
                    go_meet
                    case rel => go_light; exact ⟨_, rfl, HX6⟩
                  · refine AllReadyH.cons rfl (fun K hK => ?_) AllReadyH.nil
                    refine step_storeM rfl (op_runW (w' := Wm.drew.alloc hdZ) (.pointer (some ⟨Wm.drew.heap.size, 0, none⟩)) (by kernel_rfl) ?_)
                    refine hK.out _ _ (HSB.out _ (But.of_since (((World.Since.refl _ _).drew).alloc (Nat.le_refl _) _))) fun _ => ?_
                    clear hK
                    simp only [List.getElem_toArray, List.getElem_cons_zero, List.getElem_cons_succ, Act.put, List.setIfInBounds_toArray, List.set_cons_zero, List.set_cons_succ]
                    refine wpAnyH_ready (rs := [5]) (by kernel_rfl) (by simp) ?_
                    refine AllReadyH.cons rfl (fun K hK => ?_) AllReadyH.nil
                    refine step_callW rfl 8 #[.pointer (some ⟨RB kk, 0, none⟩), .agg MA] (by kernel_rfl) (HHE.out _ (((World.Since.refl _ _).drew).alloc (Nat.le_refl _) _)) ?_
                    rintro e v ⟨ga, gc, rfl, HV⟩
                    obtain ⟨W6, HA, HHV, HTV, HWV, HIV2, HAV, HBV, HBW, HX6⟩ := HFB.out v ga gc HV.out.1 HV.out.2
                    refine ⟨_, rfl, hK.out _ _ (HSB.out v HBV.out) fun _ => ?_⟩
                    rw [HHV.out]
                    clear hK
                    simp only [List.getElem_toArray, List.getElem_cons_zero, List.getElem_cons_succ, Act.put, List.setIfInBounds_toArray, List.set_cons_zero, List.set_cons_succ]
                    refine wpAnyH_ready (rs := [7]) (by kernel_rfl) (by simp) ?_
                    refine AllReadyH.cons rfl (fun K hK => ?_) AllReadyH.nil
                    refine step_storeM rfl (wp_store_mid 49 (.tmp 16) (.tmp 85) rfl Wm.drew.heap.size 0 HA rfl rfl HTV.out HIV2.out HAV.out ?_)
                    rw [HWV.out]
                    refine hK.out _ _ (HSB.out _ HBW.out) fun _ => ?_
                    simp only [List.getElem_toArray, List.getElem_cons_zero, List.getElem_cons_succ, Act.put]
                    refine wpAnyH_done (by kernel_rfl) ?_ _
                    clear hK
                    go_wp2_with fail
                    go_meet
                    case rel => go_light; exact ⟨_, rfl, HX6⟩

              case rest =>
                clear HSB HHE HFA HFB HIR lk
                obtain ⟨hb, rfl, HX6⟩ := hcut
                obtain ⟨O2, f, hM6, hf⟩ := HX6.out
                have p0 : wc.cell? ⟨hb, 0, none⟩ = some (.int .i64 (H.a.n 0)) := by rw [(hM6.hd _ _ rfl).1.cell (i := 0) (by decide), hf.1]
                have HM6 := hide hM6
                have HF := hide hf
                clear HX6 hM6 hf
                obtain ⟨kd, hkd⟩ : ∃ x, H.a.n 0 = x := ⟨_, rfl⟩
                rw [hkd] at p0
                have HKD := hide hkd
                clear hkd
                by_cases k5 : kd = 5
                · have HKW := hide k5
                  subst k5
                  have hkd5 : H.a.n 0 = 5 := by rw [HKD.out]
                  obtain ⟨E, Q, e5, e6, hE, hQ, hpE, hle⟩ := HSF.out.wr hkd5
                  have f5 : f 5 = .int .u64 (E : Nat) := by rw [HF.out.2.2.1, e5]
                  have f6 : f 6 = .int .u64 (Q : Nat) := by rw [HF.out.2.2.2, e6]
                  obtain ⟨t1, ht1⟩ : ∃ x, (M.tl kk).1 = x := ⟨_, rfl⟩
                  obtain ⟨t2, ht2⟩ : ∃ x, (M.tl kk).2 = x := ⟨_, rfl⟩
                  have HCL : Hid (∀ (W : World) O3, MI W0 n ⟨g, lc, RB, T⟩ (some (hb, f)) O3 W (M.rep kk H.r) (.slice a8 ns c8) (.slice a9 ns c9) (.slice a10 ne c10) (.slice a11 ne c11) (.slice a12 ne c12) wb fb → W.cell? ⟨T, kk * 2, none⟩ = some (.int .u64 (t1 : Nat)) ∧ W.cell? ⟨T, kk * 2 + 1, none⟩ = some (.int .u64 (t2 : Nat)) ∧ W.cell? ⟨hb, 5, none⟩ = some (.int .u64 (E : Nat)) ∧ W.cell? ⟨hb, 6, none⟩ = some (.int .u64 (Q : Nat))) := fun W O3 h => by
                    obtain ⟨q1, q2, _, q4, q5⟩ := h.cells kk HKK.out
                    rw [f5] at q4
                    rw [f6] at q5
                    have q1' : W.cell? ⟨T, kk * 2, none⟩ = some (.int .u64 ((M.tl kk).1 : Nat)) := q1
                    have q2' : W.cell? ⟨T, kk * 2 + 1, none⟩ = some (.int .u64 ((M.tl kk).2 : Nat)) := q2
                    rw [ht1] at q1'
                    rw [ht2] at q2'
                    exact ⟨q1', q2', q4, q5⟩
                  have HIV1 : Hid (Iv n ((M.rep kk H.r).tel kk (E, Q))) := (HIV.out.rep kk _ HSF.out.pr HSF.out.tg).tel kk (E, Q) (by show tle (E, Q) ((up M.R kk H.r kk).te, (up M.R kk H.r kk).ts); rw [up_same]; exact hle)
                  have HEP : Hid (∀ e, e < M.ne → M.fr e kk = true → M.ep e ≤ E) := fun e he hf => Nat.le_trans (HIV.out.c e he kk HKK.out hf) hpE
                  have hdr : wc.Since wc.heap.size wc.drew := (World.Since.refl _ _).drew
                  have HLS : Hid (Calls Try.prog 9 #[.agg #[.int .u64 (t1 : Nat), .int .u64 (t2 : Nat)], .agg #[.int .u64 (E : Nat), .int .u64 (Q : Nat)]] wc.drew fun e' W => e' = .returned (.bool (decide (ctM t1 t2 E Q < 0))) ∧ (W.cell? ⟨T, kk * 2, none⟩ = some (.int .u64 (t1 : Nat)) ∧ W.cell? ⟨T, kk * 2 + 1, none⟩ = some (.int .u64 (t2 : Nat)) ∧ W.cell? ⟨hb, 5, none⟩ = some (.int .u64 (E : Nat)) ∧ W.cell? ⟨hb, 6, none⟩ = some (.int .u64 (Q : Nat))) ∧ Hid (∃ O3, MI W0 n ⟨g, lc, RB, T⟩ (some (hb, f)) O3 W (M.rep kk H.r) (.slice a8 ns c8) (.slice a9 ns c9) (.slice a10 ne c10) (.slice a11 ne c11) (.slice a12 ne c12) wb fb)) := (less_any t1 t2 E Q wc.drew).mono fun e' w' ⟨h1, h2⟩ => by
                    have h3 := (HM6.out.since hdr).since h2
                    exact ⟨h1, HCL.out _ _ h3, _, h3⟩
                  have HT : Hid ((M.rep kk H.r).tel kk (E, Q) = { M.rep kk H.r with tl := up M.tl kk (tmx (M.tl kk) (E, Q)) }) := rfl
                  have HTX : Hid ((ctM t1 t2 E Q < 0 → tmx (M.tl kk) (E, Q) = (E, Q)) ∧ (¬ ctM t1 t2 E Q < 0 → tmx (M.tl kk) (E, Q) = M.tl kk)) := by
                    rw [← ht1, ← ht2]
                    exact ⟨fun h => if_pos h, fun h => if_neg h⟩
                  obtain ⟨d1, d2, d5, d6⟩ := HCL.out wc.drew _ (HM6.out.since hdr)
                  have HTT : Hid (∀ (W : World) O3, MI W0 n ⟨g, lc, RB, T⟩ (some (hb, f)) O3 W (M.rep kk H.r) (.slice a8 ns c8) (.slice a9 ns c9) (.slice a10 ne c10) (.slice a11 ne c11) (.slice a12 ne c12) wb fb → W.there T (kk * 2) 2) := fun W O3 h => h.toldThere kk HKK.out
                  have HP5 : Hid (∀ (W : World) (M' : Ms) (v1 v2 v3 v4 v5 : Value) (x1 x2 : Nat → Nat) O3, MI W0 n ⟨g, lc, RB, T⟩ (some (hb, f)) O3 W M' v1 v2 v3 v4 v5 x1 x2 → W.cell? ⟨hb, 5, none⟩ = some (.int .u64 (E : Nat)) ∧ W.cell? ⟨hb, 6, none⟩ = some (.int .u64 (Q : Nat))) := fun W M' v1 v2 v3 v4 v5 x1 x2 O3 h => by
                    obtain ⟨_, _, _, q4, q5⟩ := h.cells kk HKK.out
                    rw [f5] at q4
                    rw [f6] at q5
                    exact ⟨q4, q5⟩
                  clear hkd5 e5 e6 hE hQ hpE hle f5 f6 ht1 ht2 hdr HCL HSF HIV
                  go_upto_region 26 with fail
                  go_cut [99] from 42 to 185 (fun s99 W => s99 = .bool (decide (ctM t1 t2 E Q < 0)) ∧ (W.cell? ⟨T, kk * 2, none⟩ = some (.int .u64 (t1 : Nat)) ∧ W.cell? ⟨T, kk * 2 + 1, none⟩ = some (.int .u64 (t2 : Nat)) ∧ W.cell? ⟨hb, 5, none⟩ = some (.int .u64 (E : Nat)) ∧ W.cell? ⟨hb, 6, none⟩ = some (.int .u64 (Q : Nat))) ∧ Hid (∃ O3, MI W0 n ⟨g, lc, RB, T⟩ (some (hb, f)) O3 W (M.rep kk H.r) (.slice a8 ns c8) (.slice a9 ns c9) (.slice a10 ne c10) (.slice a11 ne c11) (.slice a12 ne c12) wb fb))
                  case first =>
                    as_aux_lemma =>
                      go_region_held3 (fun W => W.cell? ⟨T, kk * 2, none⟩ = some (.int .u64 (t1 : Nat)) ∧ W.cell? ⟨T, kk * 2 + 1, none⟩ = some (.int .u64 (t2 : Nat)) ∧ W.cell? ⟨hb, 5, none⟩ = some (.int .u64 (E : Nat)) ∧ W.cell? ⟨hb, 6, none⟩ = some (.int .u64 (Q : Nat)))
                        (first | exact ⟨d1, d2, d5, d6⟩ | exact ⟨v1, v2, v5, v6⟩)
                        (first | (go_at_call 9; with_reducible refine HLS.out.mono ?_; rintro e' w7 ⟨rfl, ⟨v1, v2, v5, v6⟩, HY⟩))
                      all_goals
                        go_wp2_with fail
                        go_meet
                        case rel => go_light; exact ⟨rfl, ⟨v1, v2, v5, v6⟩, HY⟩
                  case rest =>
                  clear HLS d1 d2 d5 d6 HM6
                  clear p0
                  obtain ⟨rfl, ⟨v1, v2, v5, v6⟩, HY⟩ := hcut
                  generalize wc = w7 at *
                  go_upto_if 99 with fail
                  go_cut [17] from 42 to 185 (fun s17 wx => Hid (∃ O3, MI W0 n ⟨g, lc, RB, T⟩ (some (hb, f)) O3 wx ((M.rep kk H.r).tel kk (E, Q)) (.slice a8 ns c8) (.slice a9 ns c9) (.slice a10 ne c10) (.slice a11 ne c11) (.slice a12 ne c12) wb fb))
                  case first =>
                    as_aux_lemma =>
                      by_cases c : ctM t1 t2 E Q < 0
                      · have hc : decide (ctM t1 t2 E Q < 0) = true := decide_eq_true c
                        rw [hc]
                        have HTH : Hid (w7.there T (kk * 2) 2) := by obtain ⟨O3, h⟩ := HY.out; exact HTT.out _ _ h
                        have HZ : Hid (∃ O3, MI W0 n ⟨g, lc, RB, T⟩ (some (hb, f)) O3 ((w7.setCell ⟨T, kk * 2, none⟩ (.int .u64 (E : Nat))).setCell ⟨T, kk * 2 + 1, none⟩ (.int .u64 (Q : Nat))) ((M.rep kk H.r).tel kk (E, Q)) (.slice a8 ns c8) (.slice a9 ns c9) (.slice a10 ne c10) (.slice a11 ne c11) (.slice a12 ne c12) wb fb) := by
                          obtain ⟨O3, h⟩ := HY.out
                          have q := h.tell kk (E, Q)
                          rw [HT.out, HTX.out.1 c]
                          exact ⟨O3, q⟩
                        clear hc c HY v1 v2
                        go_upto_region 27 with fail
                        refine wp_region_lit ?_
                        refine wpList_plain rfl fun _ hK => op_run (.slice (some ⟨T, 0, none⟩) n n) (by kernel_rfl) (hK _ _ ?_)
                        simp only [Act.put, List.setIfInBounds_toArray, List.set_cons_zero, List.set_cons_succ]
                        refine wpList_plain rfl fun _ hK => op_run (.int .i64 (kk : Nat)) (by kernel_rfl) (hK _ _ ?_)
                        simp only [Act.put, List.setIfInBounds_toArray, List.set_cons_zero, List.set_cons_succ]
                        refine wpList_plain rfl fun _ hK => op_run (.pointer (some ⟨hb, 0, none⟩)) (by kernel_rfl) (hK _ _ ?_)
                        simp only [Act.put, List.setIfInBounds_toArray, List.set_cons_zero, List.set_cons_succ]
                        refine wpList_plain rfl fun _ hK => op_run (.pointer (some ⟨hb, 5, none⟩)) (by kernel_rfl) (hK _ _ ?_)
                        simp only [Act.put, List.setIfInBounds_toArray, List.set_cons_zero, List.set_cons_succ]
                        refine wpList_plain rfl fun _ hK => op_run (.agg #[.int .u64 (E : Nat), .int .u64 (Q : Nat)]) (by go_simp) (hK _ _ ?_)
                        simp only [Act.put, List.setIfInBounds_toArray, List.set_cons_zero, List.set_cons_succ]
                        refine wpList_plain rfl fun _ hK => op_run (.pointer (some ⟨T, kk * 2, none⟩)) (by go_simp) (hK _ _ ?_)
                        simp only [Act.put, List.setIfInBounds_toArray, List.set_cons_zero, List.set_cons_succ]
                        refine wpList_plain rfl fun _ hK => wp_store_mid 37 (.tmp 105) (.tmp 104) rfl T (kk * 2) _ rfl rfl HTH.out infoTg (by simp [Value.oneCell']) ?_
                        rw [show (w7.setCells T (kk * 2) _) = (w7.setCell ⟨T, kk * 2, none⟩ (.int .u64 (E : Nat))).setCell ⟨T, kk * 2 + 1, none⟩ (.int .u64 (Q : Nat)) from rfl]
                        refine hK _ _ ?_
                        simp only [Act.put]
                        clear hK HTH v5 v6
                        go_wp2_with fail
                        go_meet
                        case rel => go_light; exact HZ
                      · have hc : decide (ctM t1 t2 E Q < 0) = false := decide_eq_false c
                        rw [hc]
                        have HZ : Hid (∃ O3, MI W0 n ⟨g, lc, RB, T⟩ (some (hb, f)) O3 w7 ((M.rep kk H.r).tel kk (E, Q)) (.slice a8 ns c8) (.slice a9 ns c9) (.slice a10 ne c10) (.slice a11 ne c11) (.slice a12 ne c12) wb fb) := by
                          obtain ⟨O3, h⟩ := HY.out
                          rw [HT.out, HTX.out.2 c, up_self]
                          exact ⟨O3, h⟩
                        clear hc c HY v1 v2 v5 v6
                        go_wp2_with fail
                        go_meet
                        case rel => go_light; exact HZ
                  case rest =>
                    clear HTT HTX HT HY v1 v2 v5 v6
                    obtain ⟨O3, hM7⟩ := hcut.out
                    obtain ⟨d5, d6⟩ := HP5.out _ _ _ _ _ _ _ _ _ _ hM7
                    obtain ⟨M2, hM2⟩ : ∃ x, (M.rep kk H.r).tel kk (E, Q) = x := ⟨_, rfl⟩
                    have HQ2 : Hid (M2.ns = ns ∧ M2.ne = ne ∧ M2.fr = M.fr ∧ M2.ep = M.ep ∧ M2.ne = M.ne ∧ tle (E, Q) (M2.tl kk)) := by
                      rw [← hM2]
                      exact ⟨HMN.out.1, HMN.out.2, rfl, rfl, rfl, by show tle (E, Q) (up M.tl kk (tmx (M.tl kk) (E, Q)) kk); rw [up_same]; exact tmx_r _ _⟩
                    rw [hM2] at hM7 HIV1
                    have hsn := hM7.seen
                    rw [HQ2.out.1] at hsn
                    have HIX : Hid (Calls Try.prog 10 #[.slice a8 ns c8, .agg #[.int .u64 (E : Nat), .int .u64 (Q : Nat)]] wc fun e w' => ∃ x : Nat, e = .returned (.int .i64 (x : Nat)) ∧ Hid (x ≤ ns ∧ (x < ns → M2.sn x = (E, Q))) ∧ w'.cell? ⟨hb, 5, none⟩ = some (.int .u64 (E : Nat)) ∧ w'.cell? ⟨hb, 6, none⟩ = some (.int .u64 (Q : Nat)) ∧ Hid (MI W0 n ⟨g, lc, RB, T⟩ (some (hb, f)) O3 w' M2 (.slice a8 ns c8) (.slice a9 ns c9) (.slice a10 ne c10) (.slice a11 ne c11) (.slice a12 ne c12) wb fb)) := (index_any hsn (by have := HI1.out; omega) E Q).mono fun e w' ⟨⟨x, he, h1, h2⟩, hs⟩ => by
                      have h3 := hM7.since hs
                      obtain ⟨q5, q6⟩ := HP5.out _ _ _ _ _ _ _ _ _ _ h3
                      exact ⟨x, he, ⟨h1, h2⟩, q5, q6, h3⟩
                    clear hM2 hM7 hsn hcut
                    go_upto_region 29 with (go_at_call 10; refine HIX.out.mono ?_; rintro e w8 ⟨x, rfl, HXX, v5, v6, HM8⟩)
                    clear HIX d5 d6
                    go_upto_if 114 with fail
                    go_cut [8, 9] from 42 to 185 (fun s8 s9 wx => ∃ (ns2 : Nat) (b8 b9 : Option Addr) (k8 k9 : Nat), s8 = .slice b8 ns2 k8 ∧ s9 = .slice b9 ns2 k9 ∧ Hid (∃ O4 M3 wb2, MI W0 n ⟨g, lc, RB, T⟩ (some (hb, f)) O4 wx M3 (.slice b8 ns2 k8) (.slice b9 ns2 k9) (.slice a10 ne c10) (.slice a11 ne c11) (.slice a12 ne c12) wb2 fb ∧ Iv n M3 ∧ M3.ns = ns2 ∧ x < ns2 ∧ ns2 ≤ ns + 1 ∧ M3.sn x = (E, Q) ∧ M3.tl = M2.tl ∧ M3.fr = M2.fr ∧ M3.ep = M2.ep ∧ M3.ne = M2.ne))
                    case first =>
                      as_aux_lemma =>
                        by_cases hx : x < ns
                        · have zx : ((x : Int) == (ns : Int)) = false := by simp; omega
                          have HZ : Hid (∃ O4 M3 wb2, MI W0 n ⟨g, lc, RB, T⟩ (some (hb, f)) O4 w8 M3 (.slice a8 ns c8) (.slice a9 ns c9) (.slice a10 ne c10) (.slice a11 ne c11) (.slice a12 ne c12) wb2 fb ∧ Iv n M3 ∧ M3.ns = ns ∧ x < ns ∧ ns ≤ ns + 1 ∧ M3.sn x = (E, Q) ∧ M3.tl = M2.tl ∧ M3.fr = M2.fr ∧ M3.ep = M2.ep ∧ M3.ne = M2.ne) := ⟨O3, M2, wb, HM8.out, HIV1.out, HQ2.out.1, hx, by omega, HXX.out.2 hx, rfl, rfl, rfl, rfl⟩
                          clear hx HM8
                          go_wp2_with fail
                          go_meet
                          case rel => go_light; exact ⟨ns, a8, a9, c8, c9, rfl, rfl, HZ⟩
                        · obtain rfl : x = ns := by have := HXX.out.1; omega
                          have zx : ((x : Int) == (x : Int)) = true := by simp
                          obtain ⟨b8, k8, W3, HR1, rb, W4, HR2, b9, k9, W5, HR3, HX5⟩ := HM8.out.appSW (E, Q) (by have := HQ2.out.1; have := HI1.out; omega) HIV1.out.eqw (by have := HNN.out; omega)
                          rw [HQ2.out.1] at HR1 HR3 HX5
                          have HZ : Hid (∃ O4 M3 wb2, MI W0 n ⟨g, lc, RB, T⟩ (some (hb, f)) O4 W5 M3 (.slice b8 (x + 1) k8) (.slice b9 (x + 1) k9) (.slice a10 ne c10) (.slice a11 ne c11) (.slice a12 ne c12) wb2 fb ∧ Iv n M3 ∧ M3.ns = x + 1 ∧ x < x + 1 ∧ x + 1 ≤ x + 1 ∧ M3.sn x = (E, Q) ∧ M3.tl = M2.tl ∧ M3.fr = M2.fr ∧ M3.ep = M2.ep ∧ M3.ne = M2.ne) := by
                            obtain ⟨O4, h5⟩ := HX5.out
                            exact ⟨O4, _, _, h5, HIV1.out.tag (E, Q), congrArg (· + 1) HQ2.out.1, Nat.lt_succ_self _, Nat.le_refl _, by show (up M2.sn M2.ns (E, Q)) x = _; rw [HQ2.out.1, up_same], rfl, rfl, rfl, rfl⟩
                          have hr2 := HR2.out
                          clear hx HM8 HX5 HR2
                          go_wp2_with (first
                            | (at_builtin; refine wpList_append_eq rfl _ _ 30 rfl _ _ _ (by rfl) (by rfl) HR1.out ?_)
                            | (at_builtin; refine wpList_append_eq rfl _ _ 31 rfl _ _ _ (by rfl) (by rfl) HR3.out ?_))
                          go_meet
                          case rel => go_light; exact ⟨x + 1, b8, b9, k8, k9, rfl, rfl, HZ⟩
                    case rest =>
                      as_aux_lemma =>
                        clear v5 v6 HM8 HIV1
                        obtain ⟨ns2, b8, b9, k8, k9, rfl, rfl, HZ⟩ := hcut
                        obtain ⟨O4, M3, wb2, h4, hiv, hns2, hxs, hns3, hsx, htl, hfr, hep, hne2⟩ := HZ.out
                        have hwho := h4.who
                        rw [hiv.eqw, hns2] at hwho
                        obtain ⟨g9, l9, e9, d9⟩ := li_cell hwho x hxs
                        injection e9 with e9 _ x9
                        subst e9 x9
                        have hrow := (h4.whr x (by rw [hiv.eqw, hns2]; exact hxs)).1
                        have dk := hrow.cell (i := kk) HKK.out
                        have fk := hrow.frozen kk
                        have zx : (x : Int) < (ns2 : Int) := by omega
                        have zx0 : (0 : Int) ≤ (x : Int) := by omega
                        obtain ⟨w9, hw9⟩ : ∃ y, wb2 x = y := ⟨_, rfl⟩
                        have hmk := h4.mark x (by rw [hiv.eqw, hns2]; exact hxs) kk
                        have hiv2 := hiv.mark x kk (by rw [hsx, htl]; exact HQ2.out.2.2.2.2.2) (fun e he hf => by rw [hsx, hep, HQ2.out.2.2.2.1]; rw [hne2, HQ2.out.2.2.2.2.1] at he; rw [hfr, HQ2.out.2.2.1] at hf; exact HEP.out e he hf)
                        rw [hw9] at d9 dk fk hmk
                        obtain ⟨W9, HW9⟩ : ∃ y, Hid (wc.setCell ⟨w9, kk, none⟩ (.bool true) = y) := ⟨_, rfl⟩
                        rw [HW9.out] at hmk
                        have HY : Hid (LS W0 n ⟨g, lc, RB, T⟩ W9 (.slice b8 ns2 k8) (.slice (some ⟨g9, 0, none⟩) ns2 k9) (.slice a10 ne c10) (.slice a11 ne c11) (.slice a12 ne c12) ns2 ne (i + 1)) := ⟨_, _, _, _, hmk.drop, hiv2, hns2, by show M3.ne = ne; rw [hne2, HQ2.out.2.1], by have := HI1.out; omega, by have := HI1.out; omega⟩
                        obtain ⟨bo, hbo⟩ : ∃ y, M3.wh x kk = y := ⟨_, rfl⟩
                        rw [hbo] at dk
                        clear h4 hiv hns2 hxs hns3 hsx htl hfr hep hne2 hwho hrow hw9 hmk hiv2 hbo HZ HEP HQ2 HXX HP5
                        go_wp2_with fail
                        rw [HW9.out]
                        go_wp2_with fail
                        go_roundg (on - (i + 1))
                        case measure => go_light; exact hme
                        case rel => go_light; exact ⟨i + 1, ns2, ne, b8, some ⟨g9, 0, none⟩, a10, a11, a12, k8, k9, c10, c11, c12, HI1.out.1, HI1.out.2.1, rfl, rfl, rfl, rfl, rfl, rfl, by simp, HY⟩
                by_cases k2 : kd = 2
                · have HKW := hide k2
                  have y5 : ((2 : Int) == 5) = false := by decide
                  subst k2
                  have hkd2 : H.a.n 0 = 2 := by rw [HKD.out]
                  obtain ⟨P, e4, hP, e5, e6, hpr, hte, hts⟩ := HSF.out.pm hkd2
                  obtain ⟨E, hE⟩ : ∃ x, (M.R kk).te = x := ⟨_, rfl⟩
                  obtain ⟨Q, hQ⟩ : ∃ x, (M.R kk).ts = x := ⟨_, rfl⟩
                  rw [hE] at e5 hte
                  rw [hQ] at e6 hts
                  have f4 : f 4 = .int .u64 (P : Nat) := by rw [HF.out.2.1, e4]
                  have f5 : f 5 = .int .u64 (E : Nat) := by rw [HF.out.2.2.1, e5]
                  have f6 : f 6 = .int .u64 (Q : Nat) := by rw [HF.out.2.2.2, e6]
                  have HIV1 : Hid (Iv n (M.rep kk H.r)) := HIV.out.rep kk _ HSF.out.pr HSF.out.tg
                  obtain ⟨M2, hM2⟩ : ∃ x, M.rep kk H.r = x := ⟨_, rfl⟩
                  have HQ2 : Hid (M2.ns = ns ∧ M2.ne = ne ∧ (M2.R kk).p = P ∧ (M2.R kk).te = E ∧ (M2.R kk).ts = Q) := by
                    rw [← hM2]
                    refine ⟨HMN.out.1, HMN.out.2, ?_, ?_, ?_⟩
                    · show (up M.R kk H.r kk).p = P
                      rw [up_same, hpr]
                    · show (up M.R kk H.r kk).te = E
                      rw [up_same, hte]
                    · show (up M.R kk H.r kk).ts = Q
                      rw [up_same, hts]
                  rw [hM2] at HM6 HIV1
                  have HP5 : Hid (∀ (W : World) (M' : Ms) (v1 v2 v3 v4 v5 : Value) (x1 x2 : Nat → Nat) O3, MI W0 n ⟨g, lc, RB, T⟩ (some (hb, f)) O3 W M' v1 v2 v3 v4 v5 x1 x2 → W.cell? ⟨hb, 4, none⟩ = some (.int .u64 (P : Nat)) ∧ W.cell? ⟨hb, 5, none⟩ = some (.int .u64 (E : Nat)) ∧ W.cell? ⟨hb, 6, none⟩ = some (.int .u64 (Q : Nat))) := fun W M' v1 v2 v3 v4 v5 x1 x2 O3 h => by
                    obtain ⟨_, _, q3, q4, q5⟩ := h.cells kk HKK.out
                    rw [f4] at q3
                    rw [f5] at q4
                    rw [f6] at q5
                    exact ⟨q3, q4, q5⟩
                  obtain ⟨v4, v5, v6⟩ := HP5.out _ _ _ _ _ _ _ _ _ _ HM6.out
                  have hep := HM6.out.eps
                  rw [HQ2.out.2.1] at hep
                  have HPL : Hid (Calls Try.prog 11 #[.slice a10 ne c10, .int .u64 (P : Nat)] wc fun e w' => ∃ x : Nat, e = .returned (.int .i64 (x : Nat)) ∧ Hid (x ≤ ne ∧ (x < ne → M2.ep x = P)) ∧ wc = w') := (place_any hep (by have := HI1.out; omega) P).mono fun e w' ⟨⟨x, he, h1, h2⟩, hs⟩ => ⟨x, he, ⟨h1, h2⟩, hs⟩
                  clear hkd2 e4 hP e5 e6 hpr hte hts hE hQ f4 f5 f6 hM2 hep HSF HIV
                  go_upto_region 35 with (go_at_call 11; refine HPL.out.mono ?_; rintro e w8 ⟨x, rfl, HXX, rfl⟩)
                  clear HPL p0
                  go_upto_if 142 with fail
                  go_cut [10, 11, 12] from 42 to 185 (fun s10 s11 s12 wx => ∃ (ne2 : Nat) (d10 d11 d12 : Option Addr) (k10 k11 k12 : Nat), s10 = .slice d10 ne2 k10 ∧ s11 = .slice d11 ne2 k11 ∧ s12 = .slice d12 ne2 k12 ∧ Hid (∃ O4 M3 fb2, MI W0 n ⟨g, lc, RB, T⟩ (some (hb, f)) O4 wx M3 (.slice a8 ns c8) (.slice a9 ns c9) (.slice d10 ne2 k10) (.slice d11 ne2 k11) (.slice d12 ne2 k12) wb fb2 ∧ Iv n M3 ∧ M3.ne = ne2 ∧ x < ne2 ∧ ne2 ≤ ne + 1 ∧ M3.ep x = P ∧ M3.ns = ns ∧ M3.R = M2.R ∧ M3.tl = M2.tl))
                  case first =>
                    as_aux_lemma =>
                      by_cases hx : x < ne
                      · have zx : ((x : Int) == (ne : Int)) = false := by simp; omega
                        have HZ : Hid (∃ O4 M3 fb2, MI W0 n ⟨g, lc, RB, T⟩ (some (hb, f)) O4 wc M3 (.slice a8 ns c8) (.slice a9 ns c9) (.slice a10 ne c10) (.slice a11 ne c11) (.slice a12 ne c12) wb fb2 ∧ Iv n M3 ∧ M3.ne = ne ∧ x < ne ∧ ne ≤ ne + 1 ∧ M3.ep x = P ∧ M3.ns = ns ∧ M3.R = M2.R ∧ M3.tl = M2.tl) := ⟨O2, M2, fb, HM6.out, HIV1.out, HQ2.out.2.1, hx, by omega, HXX.out.2 hx, HQ2.out.1, rfl, rfl⟩
                        clear hx HM6 v4 v5 v6
                        go_wp2_with fail
                        go_meet
                        case rel => go_light; exact ⟨ne, a10, a11, a12, c10, c11, c12, rfl, rfl, rfl, HZ⟩
                      · obtain rfl : x = ne := by have := HXX.out.1; omega
                        have zx : ((x : Int) == (x : Int)) = true := by simp
                        obtain ⟨d10, k10, W3, HR1, rb, W4, HR2, d11, k11, W5, HR3, d12, k12, W6, HR4, HX6⟩ := HM6.out.appEFI P (by have := HQ2.out.2.1; have := HI1.out; omega) HIV1.out.eqf HIV1.out.eqi (by have := HNN.out; omega)
                        rw [HQ2.out.2.1] at HR1 HR3 HR4 HX6
                        have HZ : Hid (∃ O4 M3 fb2, MI W0 n ⟨g, lc, RB, T⟩ (some (hb, f)) O4 W6 M3 (.slice a8 ns c8) (.slice a9 ns c9) (.slice d10 (x + 1) k10) (.slice d11 (x + 1) k11) (.slice d12 (x + 1) k12) wb fb2 ∧ Iv n M3 ∧ M3.ne = x + 1 ∧ x < x + 1 ∧ x + 1 ≤ x + 1 ∧ M3.ep x = P ∧ M3.ns = ns ∧ M3.R = M2.R ∧ M3.tl = M2.tl) := by
                          obtain ⟨O4, h5⟩ := HX6.out
                          exact ⟨O4, _, _, h5, HIV1.out.epo P, congrArg (· + 1) HQ2.out.2.1, Nat.lt_succ_self _, Nat.le_refl _, by show (up M2.ep M2.ne P) x = P; rw [HQ2.out.2.1, up_same], HQ2.out.1, rfl, rfl⟩
                        have hr2 := HR2.out
                        clear hx HM6 HX6 HR2 v5 v6
                        go_wp2_with (first
                          | (at_builtin; refine wpList_append_eq rfl _ _ 32 rfl _ _ _ (by rfl) (by rfl) HR1.out ?_)
                          | (at_builtin; refine wpList_append_eq rfl _ _ 31 rfl _ _ _ (by rfl) (by rfl) HR3.out ?_)
                          | (at_builtin; refine wpList_append_eq rfl _ _ 30 rfl _ _ _ (by rfl) (by rfl) HR4.out ?_))
                        go_meet
                        case rel => go_light; exact ⟨x + 1, d10, d11, d12, k10, k11, k12, rfl, rfl, rfl, HZ⟩
                  case rest =>
                  clear v4 v5 v6 HM6 HIV1
                  obtain ⟨ne2, d10, d11, d12, k10, k11, k12, rfl, rfl, rfl, HZ⟩ := hcut
                  obtain ⟨O4, M3, fb2, h4, hiv, hne2, hxs, hne3, hex, hns2, hRR, htl⟩ := HZ.out
                  have hfrm := h4.frm
                  rw [hiv.eqf, hne2] at hfrm
                  have hwth := h4.wth
                  rw [hiv.eqi, hne2] at hwth
                  obtain ⟨g11, l11, e11, x11⟩ := li_cell hfrm x hxs
                  injection e11 with e11 _ y11
                  subst e11 y11
                  obtain ⟨b12, l12, e12, i12⟩ := li_tag hwth x hxs
                  injection e12 with e12 _ y12
                  subst e12 y12
                  have hrow := (h4.frr x (by rw [hiv.eqf, hne2]; exact hxs)).1
                  have dk := hrow.cell (i := kk) HKK.out
                  have fk := hrow.frozen kk
                  have zx : (x : Int) < (ne2 : Int) := by omega
                  have zx0 : (0 : Int) ≤ (x : Int) := by omega
                  obtain ⟨w9, hw9⟩ : ∃ y, fb2 x = y := ⟨_, rfl⟩
                  have hmk := h4.prm x (by rw [hiv.eqf, hne2]; exact hxs) kk
                  rw [hw9] at x11 dk fk hmk
                  obtain ⟨W9, HW9⟩ : ∃ y, Hid (wc.setCell ⟨w9, kk, none⟩ (.bool true) = y) := ⟨_, rfl⟩
                  rw [HW9.out] at hmk
                  have HIVQ : Hid (Iv n ((M3.prm x kk).wth x (E, Q))) := by
                    have q := hiv.prm x kk HKK.out (by rw [hex, hRR, HQ2.out.2.2.1]; exact Nat.le_refl _)
                    rw [hRR, HQ2.out.2.2.2.1, HQ2.out.2.2.2.2] at q
                    exact q
                  have HQ3 : Hid (M3.ns = ns ∧ M3.ne = ne2 ∧ ne2 ≤ ne + 1 ∧ M3.ni = ne2 ∧ x < ne2 ∧ tle (M3.tl kk) (E, Q)) := ⟨hns2, hne2, hne3, by rw [hiv.eqi, hne2], hxs, by have q := hiv.a kk HKK.out; rw [hRR, HQ2.out.2.2.2.1, HQ2.out.2.2.2.2] at q; exact q⟩
                  have HM9 : Hid (MI W0 n ⟨g, lc, RB, T⟩ (some (hb, f)) O4 W9 (M3.prm x kk) (.slice a8 ns c8) (.slice a9 ns c9) (.slice d10 ne2 k10) (.slice (some ⟨g11, 0, none⟩) ne2 k11) (.slice (some ⟨b12, 0, none⟩) ne2 k12) wb fb2) := hmk
                  obtain ⟨bo, hbo⟩ : ∃ y, M3.fr x kk = y := ⟨_, rfl⟩
                  rw [hbo] at dk
                  obtain ⟨t1, ht1⟩ : ∃ y, (M3.tl kk).1 = y := ⟨_, rfl⟩
                  obtain ⟨t2, ht2⟩ : ∃ y, (M3.tl kk).2 = y := ⟨_, rfl⟩
                  obtain ⟨i1, hi1⟩ : ∃ y, (M3.wi x).1 = y := ⟨_, rfl⟩
                  obtain ⟨i2, hi2⟩ : ∃ y, (M3.wi x).2 = y := ⟨_, rfl⟩
                  have HCP : Hid (∀ (W : World) O5, MI W0 n ⟨g, lc, RB, T⟩ (some (hb, f)) O5 W (M3.prm x kk) (.slice a8 ns c8) (.slice a9 ns c9) (.slice d10 ne2 k10) (.slice (some ⟨g11, 0, none⟩) ne2 k11) (.slice (some ⟨b12, 0, none⟩) ne2 k12) wb fb2 → W.cell? ⟨b12, x * 2, none⟩ = some (.int .u64 (i1 : Nat)) ∧ W.cell? ⟨b12, x * 2 + 1, none⟩ = some (.int .u64 (i2 : Nat)) ∧ W.cell? ⟨hb, 5, none⟩ = some (.int .u64 (E : Nat)) ∧ W.cell? ⟨hb, 6, none⟩ = some (.int .u64 (Q : Nat))) := fun W O5 h => by
                    obtain ⟨_, q5, q6⟩ := HP5.out _ _ _ _ _ _ _ _ _ _ h
                    have hw := h.wth
                    have e : (M3.prm x kk).ni = ne2 := HQ3.out.2.2.2.1
                    rw [e] at hw
                    obtain ⟨b, c, hv, q1, q2, _⟩ := li_tag hw x HQ3.out.2.2.2.2.1
                    injection hv with hv _ _
                    obtain rfl : b12 = b := congrArg Addr.block (Option.some.inj hv)
                    have q1' : W.cell? ⟨b12, x * 2, none⟩ = some (.int .u64 ((M3.wi x).1 : Nat)) := q1
                    have q2' : W.cell? ⟨b12, x * 2 + 1, none⟩ = some (.int .u64 ((M3.wi x).2 : Nat)) := q2
                    rw [hi1] at q1'
                    rw [hi2] at q2'
                    exact ⟨q1', q2', q5, q6⟩
                  have HTB : Hid (∀ (W : World) O5, MI W0 n ⟨g, lc, RB, T⟩ (some (hb, f)) O5 W (M3.prm x kk) (.slice a8 ns c8) (.slice a9 ns c9) (.slice d10 ne2 k10) (.slice (some ⟨g11, 0, none⟩) ne2 k11) (.slice (some ⟨b12, 0, none⟩) ne2 k12) wb fb2 → W.there b12 (x * 2) 2) := fun W O5 h => by
                    have hw := h.wth
                    have e : (M3.prm x kk).ni = ne2 := HQ3.out.2.2.2.1
                    rw [e] at hw
                    obtain ⟨b, c, hv, _, _, _, _, q⟩ := li_tag hw x HQ3.out.2.2.2.2.1
                    injection hv with hv _ _
                    obtain rfl : b12 = b := congrArg Addr.block (Option.some.inj hv)
                    exact q
                  have HCT : Hid (∀ (W : World) O5, MI W0 n ⟨g, lc, RB, T⟩ (some (hb, f)) O5 W ((M3.prm x kk).wth x (E, Q)) (.slice a8 ns c8) (.slice a9 ns c9) (.slice d10 ne2 k10) (.slice (some ⟨g11, 0, none⟩) ne2 k11) (.slice (some ⟨b12, 0, none⟩) ne2 k12) wb fb2 → W.cell? ⟨T, kk * 2, none⟩ = some (.int .u64 (t1 : Nat)) ∧ W.cell? ⟨T, kk * 2 + 1, none⟩ = some (.int .u64 (t2 : Nat)) ∧ W.cell? ⟨hb, 5, none⟩ = some (.int .u64 (E : Nat)) ∧ W.cell? ⟨hb, 6, none⟩ = some (.int .u64 (Q : Nat))) := fun W O5 h => by
                    obtain ⟨q1, q2, _, _, _⟩ := h.cells kk HKK.out
                    obtain ⟨_, q5, q6⟩ := HP5.out _ _ _ _ _ _ _ _ _ _ h
                    have q1' : W.cell? ⟨T, kk * 2, none⟩ = some (.int .u64 ((M3.tl kk).1 : Nat)) := q1
                    have q2' : W.cell? ⟨T, kk * 2 + 1, none⟩ = some (.int .u64 ((M3.tl kk).2 : Nat)) := q2
                    rw [ht1] at q1'
                    rw [ht2] at q2'
                    exact ⟨q1', q2', q5, q6⟩
                  have HTX : Hid ((ctM i1 i2 E Q < 0 → tmx (M3.wi x) (E, Q) = (E, Q)) ∧ (¬ ctM i1 i2 E Q < 0 → tmx (M3.wi x) (E, Q) = M3.wi x)) := by
                    rw [← hi1, ← hi2]
                    exact ⟨fun h => if_pos h, fun h => if_neg h⟩
                  have HDN : Hid (decide (ctM E Q t1 t2 < 0) = false) := by
                    have q := HQ3.out.2.2.2.2.2
                    rw [show M3.tl kk = (t1, t2) by rw [← ht1, ← ht2]] at q
                    exact decide_eq_false (fun h => (ctM_lt.1 h) q)
                  clear h4 hiv hne2 hxs hne3 hex hns2 hRR htl hfrm hwth i12 hrow hw9 hmk hbo ht1 ht2 hi1 hi2 HZ HQ2 HXX HP5
                  go_upto_region 40 with fail
                  rw [HW9.out]
                  clear HW9 dk fk x11
                  have hdr : W9.Since W9.heap.size W9.drew := (World.Since.refl _ _).drew
                  obtain ⟨d1, d2, d5, d6⟩ := HCP.out W9.drew _ (HM9.out.since hdr)
                  have HLS : Hid (Calls Try.prog 9 #[.agg #[.int .u64 (i1 : Nat), .int .u64 (i2 : Nat)], .agg #[.int .u64 (E : Nat), .int .u64 (Q : Nat)]] W9.drew fun e' W => e' = .returned (.bool (decide (ctM i1 i2 E Q < 0))) ∧ (W.cell? ⟨b12, x * 2, none⟩ = some (.int .u64 (i1 : Nat)) ∧ W.cell? ⟨b12, x * 2 + 1, none⟩ = some (.int .u64 (i2 : Nat)) ∧ W.cell? ⟨hb, 5, none⟩ = some (.int .u64 (E : Nat)) ∧ W.cell? ⟨hb, 6, none⟩ = some (.int .u64 (Q : Nat))) ∧ Hid (MI W0 n ⟨g, lc, RB, T⟩ (some (hb, f)) O4 W (M3.prm x kk) (.slice a8 ns c8) (.slice a9 ns c9) (.slice d10 ne2 k10) (.slice (some ⟨g11, 0, none⟩) ne2 k11) (.slice (some ⟨b12, 0, none⟩) ne2 k12) wb fb2)) := (less_any i1 i2 E Q W9.drew).mono fun e' w' ⟨h1, h2⟩ => by
                    have h3 := (HM9.out.since hdr).since h2
                    exact ⟨h1, HCP.out _ _ h3, h3⟩
                  clear hdr HM9
                  go_cut [171] from 42 to 185 (fun s171 W => s171 = .bool (decide (ctM i1 i2 E Q < 0)) ∧ (W.cell? ⟨b12, x * 2, none⟩ = some (.int .u64 (i1 : Nat)) ∧ W.cell? ⟨b12, x * 2 + 1, none⟩ = some (.int .u64 (i2 : Nat)) ∧ W.cell? ⟨hb, 5, none⟩ = some (.int .u64 (E : Nat)) ∧ W.cell? ⟨hb, 6, none⟩ = some (.int .u64 (Q : Nat))) ∧ Hid (MI W0 n ⟨g, lc, RB, T⟩ (some (hb, f)) O4 W (M3.prm x kk) (.slice a8 ns c8) (.slice a9 ns c9) (.slice d10 ne2 k10) (.slice (some ⟨g11, 0, none⟩) ne2 k11) (.slice (some ⟨b12, 0, none⟩) ne2 k12) wb fb2))
                  case first =>
                    as_aux_lemma =>
                      go_region_held3 (fun W => W.cell? ⟨b12, x * 2, none⟩ = some (.int .u64 (i1 : Nat)) ∧ W.cell? ⟨b12, x * 2 + 1, none⟩ = some (.int .u64 (i2 : Nat)) ∧ W.cell? ⟨hb, 5, none⟩ = some (.int .u64 (E : Nat)) ∧ W.cell? ⟨hb, 6, none⟩ = some (.int .u64 (Q : Nat)))
                        (first | exact ⟨d1, d2, d5, d6⟩ | exact ⟨v1, v2, v5, v6⟩)
                        (first | (go_at_call 9; with_reducible refine HLS.out.mono ?_; rintro e' w7 ⟨rfl, ⟨v1, v2, v5, v6⟩, HY⟩))
                      all_goals
                        go_wp2_with fail
                        go_meet
                        case rel => go_light; exact ⟨rfl, ⟨v1, v2, v5, v6⟩, HY⟩
                  case rest =>
                  clear HLS d1 d2 d5 d6
                  obtain ⟨rfl, ⟨v1, v2, v5, v6⟩, HY⟩ := hcut
                  generalize wc = w7 at *
                  go_upto_if 171 with fail
                  go_cut [17] from 42 to 185 (fun s17 wx => Hid (MI W0 n ⟨g, lc, RB, T⟩ (some (hb, f)) O4 wx ((M3.prm x kk).wth x (E, Q)) (.slice a8 ns c8) (.slice a9 ns c9) (.slice d10 ne2 k10) (.slice (some ⟨g11, 0, none⟩) ne2 k11) (.slice (some ⟨b12, 0, none⟩) ne2 k12) wb fb2))
                  case first =>
                    as_aux_lemma =>
                      by_cases c : ctM i1 i2 E Q < 0
                      · have hc : decide (ctM i1 i2 E Q < 0) = true := decide_eq_true c
                        rw [hc]
                        have HTH : Hid (w7.there b12 (x * 2) 2) := HTB.out _ _ HY.out
                        have HZ : Hid (MI W0 n ⟨g, lc, RB, T⟩ (some (hb, f)) O4 ((w7.setCell ⟨b12, x * 2, none⟩ (.int .u64 (E : Nat))).setCell ⟨b12, x * 2 + 1, none⟩ (.int .u64 (Q : Nat))) ((M3.prm x kk).wth x (E, Q)) (.slice a8 ns c8) (.slice a9 ns c9) (.slice d10 ne2 k10) (.slice (some ⟨g11, 0, none⟩) ne2 k11) (.slice (some ⟨b12, 0, none⟩) ne2 k12) wb fb2) := by
                          have e : (M3.prm x kk).ni = ne2 := HQ3.out.2.2.2.1
                          have q := HY.out.put b12 k12 (by rw [e]) (by rw [e]; have := HQ3.out.2.2.2.2.1; omega) x (E, Q)
                          show MI _ _ _ _ _ _ { M3.prm x kk with wi := up M3.wi x (tmx (M3.wi x) (E, Q)) } _ _ _ _ _ _ _
                          rw [HTX.out.1 c]
                          exact q
                        clear hc c HY v1 v2
                        go_upto_region 41 with fail
                        refine wp_region_lit ?_
                        refine wpList_plain rfl fun _ hK => op_run (.slice (some ⟨b12, 0, none⟩) ne2 k12) (by kernel_rfl) (hK _ _ ?_)
                        simp only [Act.put, List.setIfInBounds_toArray, List.set_cons_zero, List.set_cons_succ]
                        refine wpList_plain rfl fun _ hK => op_run (.int .i64 (x : Nat)) (by kernel_rfl) (hK _ _ ?_)
                        simp only [Act.put, List.setIfInBounds_toArray, List.set_cons_zero, List.set_cons_succ]
                        refine wpList_plain rfl fun _ hK => op_run (.pointer (some ⟨hb, 0, none⟩)) (by kernel_rfl) (hK _ _ ?_)
                        simp only [Act.put, List.setIfInBounds_toArray, List.set_cons_zero, List.set_cons_succ]
                        refine wpList_plain rfl fun _ hK => op_run (.pointer (some ⟨hb, 5, none⟩)) (by kernel_rfl) (hK _ _ ?_)
                        simp only [Act.put, List.setIfInBounds_toArray, List.set_cons_zero, List.set_cons_succ]
                        refine wpList_plain rfl fun _ hK => op_run (.agg #[.int .u64 (E : Nat), .int .u64 (Q : Nat)]) (by go_simp) (hK _ _ ?_)
                        simp only [Act.put, List.setIfInBounds_toArray, List.set_cons_zero, List.set_cons_succ]
                        refine wpList_plain rfl fun _ hK => op_run (.pointer (some ⟨b12, x * 2, none⟩)) (by go_simp) (hK _ _ ?_)
                        simp only [Act.put, List.setIfInBounds_toArray, List.set_cons_zero, List.set_cons_succ]
                        refine wpList_plain rfl fun _ hK => wp_store_mid 37 (.tmp 177) (.tmp 176) rfl b12 (x * 2) _ rfl rfl HTH.out infoTg (by simp [Value.oneCell']) ?_
                        rw [show (w7.setCells b12 (x * 2) _) = (w7.setCell ⟨b12, x * 2, none⟩ (.int .u64 (E : Nat))).setCell ⟨b12, x * 2 + 1, none⟩ (.int .u64 (Q : Nat)) from rfl]
                        refine hK _ _ ?_
                        simp only [Act.put]
                        clear hK HTH v5 v6
                        go_wp2_with fail
                        go_meet
                        case rel => go_light; exact HZ
                      · have hc : decide (ctM i1 i2 E Q < 0) = false := decide_eq_false c
                        rw [hc]
                        have HZ : Hid (MI W0 n ⟨g, lc, RB, T⟩ (some (hb, f)) O4 w7 ((M3.prm x kk).wth x (E, Q)) (.slice a8 ns c8) (.slice a9 ns c9) (.slice d10 ne2 k10) (.slice (some ⟨g11, 0, none⟩) ne2 k11) (.slice (some ⟨b12, 0, none⟩) ne2 k12) wb fb2) := by
                          show MI _ _ _ _ _ _ { M3.prm x kk with wi := up M3.wi x (tmx (M3.wi x) (E, Q)) } _ _ _ _ _ _ _
                          rw [HTX.out.2 c, up_self]
                          exact HY.out
                        clear hc c HY v1 v2 v5 v6
                        go_wp2_with fail
                        go_meet
                        case rel => go_light; exact HZ
                  case rest =>
                    as_aux_lemma =>
                      clear HY v1 v2 v5 v6 HTX HTB HCP
                      have HM9 := hcut
                      have hdr : wc.Since wc.heap.size wc.drew := (World.Since.refl _ _).drew
                      obtain ⟨d1, d2, d5, d6⟩ := HCT.out wc.drew _ (HM9.out.since hdr)
                      have HLS : Hid (Calls Try.prog 9 #[.agg #[.int .u64 (E : Nat), .int .u64 (Q : Nat)], .agg #[.int .u64 (t1 : Nat), .int .u64 (t2 : Nat)]] wc.drew fun e' W => e' = .returned (.bool false) ∧ (W.cell? ⟨T, kk * 2, none⟩ = some (.int .u64 (t1 : Nat)) ∧ W.cell? ⟨T, kk * 2 + 1, none⟩ = some (.int .u64 (t2 : Nat)) ∧ W.cell? ⟨hb, 5, none⟩ = some (.int .u64 (E : Nat)) ∧ W.cell? ⟨hb, 6, none⟩ = some (.int .u64 (Q : Nat))) ∧ Hid (LS W0 n ⟨g, lc, RB, T⟩ W (.slice a8 ns c8) (.slice a9 ns c9) (.slice d10 ne2 k10) (.slice (some ⟨g11, 0, none⟩) ne2 k11) (.slice (some ⟨b12, 0, none⟩) ne2 k12) ns ne2 (i + 1))) := (less_any E Q t1 t2 wc.drew).mono fun e' w' ⟨h1, h2⟩ => by
                        have h3 := (HM9.out.since hdr).since h2
                        exact ⟨by rw [h1, HDN.out], HCT.out _ _ h3, _, _, _, _, h3.drop, HIVQ.out, HQ3.out.1, HQ3.out.2.1, by have := HI1.out; omega, by have := HI1.out; have := HQ3.out.2.2.1; omega⟩
                      clear hdr HM9 hcut HDN HIVQ HCT
                      go_upto_region 42 with fail
                      go_region_held3 (fun W => W.cell? ⟨T, kk * 2, none⟩ = some (.int .u64 (t1 : Nat)) ∧ W.cell? ⟨T, kk * 2 + 1, none⟩ = some (.int .u64 (t2 : Nat)) ∧ W.cell? ⟨hb, 5, none⟩ = some (.int .u64 (E : Nat)) ∧ W.cell? ⟨hb, 6, none⟩ = some (.int .u64 (Q : Nat)))
                        (first | exact ⟨d1, d2, d5, d6⟩ | exact ⟨v1, v2, v5, v6⟩)
                        (first | (go_at_call 9; with_reducible refine HLS.out.mono ?_; rintro e' w7 ⟨rfl, ⟨v1, v2, v5, v6⟩, HY⟩))
                      all_goals
                        go_wp2_with fail
                        go_roundg (on - (i + 1))
                        case measure => go_light; exact hme
                        case rel => go_light; exact ⟨i + 1, ns, ne2, a8, a9, d10, some ⟨g11, 0, none⟩, some ⟨b12, 0, none⟩, c8, c9, k10, k11, k12, HI1.out.1, HI1.out.2.1, rfl, rfl, rfl, rfl, rfl, rfl, by simp, HY⟩
                · have y5 : (kd == 5) = false := by simp [k5]
                  have y2 : (kd == 2) = false := by simp [k2]
                  have HY : Hid (LS W0 n ⟨g, lc, RB, T⟩ wc (.slice a8 ns c8) (.slice a9 ns c9) (.slice a10 ne c10) (.slice a11 ne c11) (.slice a12 ne c12) ns ne (i + 1)) := ⟨_, _, wb, fb, HM6.out.drop, HIV.out.rep kk _ HSF.out.pr HSF.out.tg, HMN.out.1, HMN.out.2, by have := HI1.out; omega, by have := HI1.out; omega⟩
                  clear HM6 HF HSF HIV HMN HKD k5 k2
                  as_aux_lemma =>
                    go_wp2_with fail
                    go_roundg (on - (i + 1))
                    case measure => go_light; exact hme
                    case rel => go_light; exact ⟨i + 1, ns, ne, a8, a9, a10, a11, a12, c8, c9, c10, c11, c12, HI1.out.1, HI1.out.2.1, rfl, rfl, rfl, rfl, rfl, rfl, by simp, HY⟩
          · have HY : Hid (LS W0 n ⟨g, lc, RB, T⟩ wr (.slice a8 ns c8) (.slice a9 ns c9) (.slice a10 ne c10) (.slice a11 ne c11) (.slice a12 ne c12) ns ne 200) := ⟨OO, M, wb, fb, hMI, hIv, hMns, hMne, by omega, by omega⟩
            have c1 := HC1.out wr hsi
            clear HX hMI hIv hMns hMne hnsi hnei hi2
            by_cases hin : (i : Int) < (on : Int)
            · have hin2 : ¬ ((i : Int) < 200) := by omega
              clear hlt hi
              go_wp2_with fail
              go_meet
              case rel => go_light; exact ⟨ns, ne, a8, a9, a10, a11, a12, c8, c9, c10, c11, c12, rfl, rfl, rfl, rfl, rfl, HY⟩
            · clear hlt hi
              go_wp2_with fail
              go_meet
              case rel => go_light; exact ⟨ns, ne, a8, a9, a10, a11, a12, c8, c9, c10, c11, c12, rfl, rfl, rfl, rfl, rfl, HY⟩
      case rest =>
        as_aux_lemma =>
          clear HLS
          obtain ⟨ns, ne, a8, a9, a10, a11, a12, c8, c9, c10, c11, c12, rfl, rfl, rfl, rfl, rfl, HX⟩ := hcut
          obtain ⟨OO, M, wb, fb, hMI, hIv, hMns, hMne, hnsi, hnei⟩ := HX.out
          have HM : Hid (MI W0 n ⟨g, lc, RB, T⟩ none OO wc M (.slice a8 ns c8) (.slice a9 ns c9) (.slice a10 ne c10) (.slice a11 ne c11) (.slice a12 ne c12) wb fb) := hMI
          have HIV := hide hIv
          have HMN : Hid (M.ns = ns ∧ M.ne = ne ∧ ns ≤ 200 ∧ ne ≤ 200) := ⟨hMns, hMne, hnsi, hnei⟩
          clear hMI hIv hMns hMne hnsi hnei HX
          go_wp2_with fail
          go_loopg [19, 20] ns (fun q s19 s20 wx => ∃ j : Nat, j ≤ ns ∧ q = ns - j ∧ s19 = .int .i64 (j : Nat) ∧ Hid (MI W0 n ⟨g, lc, RB, T⟩ none OO wx M (.slice a8 ns c8) (.slice a9 ns c9) (.slice a10 ne c10) (.slice a11 ne c11) (.slice a12 ne c12) wb fb))
          case atStart => exact ⟨0, Nat.zero_le _, rfl, rfl, HM⟩
          case round =>
            as_aux_lemma =>
              clear HM
              obtain ⟨j, hj, rfl, rfl, HM⟩ := hrel
              by_cases hjl : j < ns
              · have zj : (j : Int) < (ns : Int) := by omega
                have zj0 : (0 : Int) ≤ (j : Int) := by omega
                have HJ := hide hjl
                have hwj : IntKind.i64.wrap ((j : Int) + 1) = (j : Int) + 1 := by have := HMN.out; rw [IntKind.wrap_i64]; omega
                have hmej : ns - (j + 1) < ns - j := by omega
                clear hj hjl
                generalize wr = wrO at *
                go_wp2_with fail
                go_loopg [20] ne (fun q s20 wx => ∃ e : Nat, e ≤ ne ∧ q = ne - e ∧ s20 = .int .i64 (e : Nat) ∧ Hid (MI W0 n ⟨g, lc, RB, T⟩ none OO wx M (.slice a8 ns c8) (.slice a9 ns c9) (.slice a10 ne c10) (.slice a11 ne c11) (.slice a12 ne c12) wb fb))
                case atStart => exact ⟨0, Nat.zero_le _, rfl, rfl, HM⟩
                case round =>
                  clear HM
                  obtain ⟨e, he, rfl, rfl, HM⟩ := hrel
                  by_cases hel : e < ne
                  · have ze : (e : Int) < (ne : Int) := by omega
                    have ze0 : (0 : Int) ≤ (e : Int) := by omega
                    have HEL := hide hel
                    have hwe : IntKind.i64.wrap ((e : Int) + 1) = (e : Int) + 1 := by have := HMN.out; rw [IntKind.wrap_i64]; omega
                    have hmee : ne - (e + 1) < ne - e := by omega
                    clear he hel
                    have hS := HM.out.seen
                    have hW := HM.out.who
                    have hE := HM.out.eps
                    have hF := HM.out.frm
                    have hI := HM.out.wth
                    rw [HMN.out.1] at hS
                    rw [HIV.out.eqw, HMN.out.1] at hW
                    rw [HMN.out.2.1] at hE
                    rw [HIV.out.eqf, HMN.out.2.1] at hF
                    rw [HIV.out.eqi, HMN.out.2.1] at hI
                    obtain ⟨b8, k8, e8, d80, d81, _⟩ := li_tag hS j HJ.out
                    obtain ⟨b12, k12, e12, d120, d121, _⟩ := li_tag hI e HEL.out
                    obtain ⟨b9, k9, e9, d9⟩ := li_cell hW j HJ.out
                    obtain ⟨b10, k10, e10, d10⟩ := li_cell hE e HEL.out
                    obtain ⟨b11, k11, e11, d11⟩ := li_cell hF e HEL.out
                    injection e8 with e8 _ x8
                    injection e9 with e9 _ x9
                    injection e10 with e10 _ x10
                    injection e11 with e11 _ x11
                    injection e12 with e12 _ x12
                    subst e8 e9 e10 e11 e12 x8 x9 x10 x11 x12
                    have hwr := (HM.out.whr j (by rw [HIV.out.eqw, HMN.out.1]; exact HJ.out)).1
                    have hfr := (HM.out.frr e (by rw [HIV.out.eqf, HMN.out.2.1]; exact HEL.out)).1
                    have HMF : Hid (∀ q, MI W0 n ⟨g, lc, RB, T⟩ none OO (wr.drewN q) M (.slice (some ⟨b8, 0, none⟩) ns c8) (.slice (some ⟨b9, 0, none⟩) ns c9) (.slice (some ⟨b10, 0, none⟩) ne c10) (.slice (some ⟨b11, 0, none⟩) ne c11) (.slice (some ⟨b12, 0, none⟩) ne c12) wb fb) := fun q => HM.out.since ⟨rfl, rfl, rfl, Nat.le_refl _, fun _ _ => rfl⟩
                    have H1 : Hid (∀ q, Calls Try.prog 12 #[.slice (some ⟨wb j, 0, none⟩) n n, .int .i64 (n : Nat)] (wr.drewN q) fun e w' => e = .returned (.bool (decide (n < 2 * cnt (M.wh j) n))) ∧ w' = wr.drewN q) := fun q => (most_any (w := wr.drewN q) (hwr.of_block rfl) (by have := HNN.out; omega)).mono fun e w' ⟨h1, h2⟩ => ⟨h1, h2.symm⟩
                    have H2 : Hid (∀ q, Calls Try.prog 12 #[.slice (some ⟨fb e, 0, none⟩) n n, .int .i64 (n : Nat)] (wr.drewN q) fun e' w' => e' = .returned (.bool (decide (n < 2 * cnt (M.fr e) n))) ∧ w' = wr.drewN q) := fun q => (most_any (w := wr.drewN q) (hfr.of_block rfl) (by have := HNN.out; omega)).mono fun e' w' ⟨h1, h2⟩ => ⟨h1, h2.symm⟩
                    have HD : Hid (n < 2 * cnt (M.wh j) n → n < 2 * cnt (M.fr e) n → (M.sn j).1 < M.ep e → decide (ctM (M.wi e).1 (M.wi e).2 (M.sn j).1 (M.sn j).2 < 0) = false) := fun h1 h2 h3 => by
                      obtain ⟨k, hk, g1, g2⟩ := meets h1 h2
                      have q := HIV.out.d j (by rw [HMN.out.1]; exact HJ.out) e (by rw [HMN.out.2.1]; exact HEL.out) k hk g1 g2 h3
                      exact decide_eq_false (fun h => (ctM_lt.1 h) q)
                    clear hS hW hE hF hI hwr hfr
                    obtain ⟨w1, hw1⟩ : ∃ x, wb j = x := ⟨_, rfl⟩
                    obtain ⟨f1, hf1⟩ : ∃ x, fb e = x := ⟨_, rfl⟩
                    obtain ⟨t1, ht1⟩ : ∃ x, (M.sn j).1 = x := ⟨_, rfl⟩
                    obtain ⟨t2, ht2⟩ : ∃ x, (M.sn j).2 = x := ⟨_, rfl⟩
                    obtain ⟨ee, hee⟩ : ∃ x, M.ep e = x := ⟨_, rfl⟩
                    obtain ⟨i1, hi1⟩ : ∃ x, (M.wi e).1 = x := ⟨_, rfl⟩
                    obtain ⟨i2, hi2⟩ : ∃ x, (M.wi e).2 = x := ⟨_, rfl⟩
                    rw [hw1] at d9 H1
                    rw [hf1] at d11 H2
                    rw [ht1] at d80
                    rw [ht2] at d81
                    rw [hee] at d10
                    rw [hi1] at d120
                    rw [hi2] at d121
                    rw [ht1, ht2, hee, hi1, hi2] at HD
                    clear hw1 hf1 ht1 ht2 hee hi1 hi2 HM
                    have REL : ∀ q, MI W0 n ⟨g, lc, RB, T⟩ none OO (wr.drewN q) M (.slice (some ⟨b8, 0, none⟩) ns c8) (.slice (some ⟨b9, 0, none⟩) ns c9) (.slice (some ⟨b10, 0, none⟩) ne c10) (.slice (some ⟨b11, 0, none⟩) ne c11) (.slice (some ⟨b12, 0, none⟩) ne c12) wb fb := HMF.out
                    have HREL := hide REL
                    clear REL
                    by_cases g1 : n < 2 * cnt (M.wh j) n
                    · rw [decide_eq_true g1] at H1
                      by_cases g2 : n < 2 * cnt (M.fr e) n
                      · rw [decide_eq_true g2] at H2
                        by_cases g3 : t1 < ee
                        · have z3 : (t1 : Int) < (ee : Int) := by omega
                          have K1 : Hid (Calls Try.prog 12 #[.slice (some ⟨w1, 0, none⟩) n n, .int .i64 (n : Nat)] wr.drew fun e' w' => e' = .returned (.bool true) ∧ w' = wr.drew) := H1.out 1
                          have K2 : Hid (Calls Try.prog 12 #[.slice (some ⟨f1, 0, none⟩) n n, .int .i64 (n : Nat)] wr.drew fun e' w' => e' = .returned (.bool true) ∧ w' = wr.drew) := H2.out 1
                          have K3 : Hid (Calls Try.prog 9 #[.agg #[.int .u64 (i1 : Nat), .int .u64 (i2 : Nat)], .agg #[.int .u64 (t1 : Nat), .int .u64 (t2 : Nat)]] wr.drew fun e' W => e' = .returned (.bool false) ∧ (W.cell? ⟨b9, j, none⟩ = some (.slice (some ⟨w1, 0, none⟩) n n) ∧ W.cell? ⟨b11, e, none⟩ = some (.slice (some ⟨f1, 0, none⟩) n n) ∧ W.cell? ⟨b8, j * 2, none⟩ = some (.int .u64 (t1 : Nat)) ∧ W.cell? ⟨b8, j * 2 + 1, none⟩ = some (.int .u64 (t2 : Nat)) ∧ W.cell? ⟨b10, e, none⟩ = some (.int .u64 (ee : Nat)) ∧ W.cell? ⟨b12, e * 2, none⟩ = some (.int .u64 (i1 : Nat)) ∧ W.cell? ⟨b12, e * 2 + 1, none⟩ = some (.int .u64 (i2 : Nat))) ∧ Hid (MI W0 n ⟨g, lc, RB, T⟩ none OO W M (.slice (some ⟨b8, 0, none⟩) ns c8) (.slice (some ⟨b9, 0, none⟩) ns c9) (.slice (some ⟨b10, 0, none⟩) ne c10) (.slice (some ⟨b11, 0, none⟩) ne c11) (.slice (some ⟨b12, 0, none⟩) ne c12) wb fb)) := (less_any i1 i2 t1 t2 wr.drew).mono fun e' w' ⟨h1, h2⟩ => ⟨by rw [h1, HD.out g1 g2 g3], ⟨cell_later (w := wr.drew) h2 d9, cell_later (w := wr.drew) h2 d11, cell_later (w := wr.drew) h2 d80, cell_later (w := wr.drew) h2 d81, cell_later (w := wr.drew) h2 d10, cell_later (w := wr.drew) h2 d120, cell_later (w := wr.drew) h2 d121⟩, (HMF.out 1).since h2⟩
                          clear HD g1 g2 g3 HMF H1 H2
                          go_upto_region 50 with fail
                          go_region_held3 (fun W => W.cell? ⟨b9, j, none⟩ = some (.slice (some ⟨w1, 0, none⟩) n n) ∧ W.cell? ⟨b11, e, none⟩ = some (.slice (some ⟨f1, 0, none⟩) n n) ∧ W.cell? ⟨b8, j * 2, none⟩ = some (.int .u64 (t1 : Nat)) ∧ W.cell? ⟨b8, j * 2 + 1, none⟩ = some (.int .u64 (t2 : Nat)) ∧ W.cell? ⟨b10, e, none⟩ = some (.int .u64 (ee : Nat)) ∧ W.cell? ⟨b12, e * 2, none⟩ = some (.int .u64 (i1 : Nat)) ∧ W.cell? ⟨b12, e * 2 + 1, none⟩ = some (.int .u64 (i2 : Nat)))
                            (first | exact ⟨d9, d11, d80, d81, d10, d120, d121⟩ | exact ⟨v1, v2, v3, v4, v5, v6, v7⟩)
                            (first
                              | (go_at_call 12; with_reducible refine K1.out.mono ?_; rintro e' w7 ⟨rfl, rfl⟩)
                              | (go_at_call 12; with_reducible refine K2.out.mono ?_; rintro e' w7 ⟨rfl, rfl⟩)
                              | (go_at_call 9; with_reducible refine K3.out.mono ?_; rintro e' w7 ⟨rfl, ⟨v1, v2, v3, v4, v5, v6, v7⟩, HY⟩))
                          all_goals
                            go_wp2_with fail
                            go_roundg (ne - (e + 1))
                            case measure => go_light; exact hmee
                            case rel => go_light; exact ⟨e + 1, HEL.out, rfl, by simp, HY⟩
                        · have z3 : ¬ (t1 : Int) < (ee : Int) := by omega
                          have r3 : ∀ w, (binOp .lss 33 (.int .u64 (t1 : Nat)) (.int .u64 (ee : Nat))).run Try.prog w = .ok (.bool false) w := fun w => by go_simp
                          clear HD g1 g2 g3 HMF
                          go_upto_region 50 with fail
                          go_quiet (first | with_reducible exact Calls.quiet_of_same (H1.out _) | with_reducible exact Calls.quiet_of_same (H2.out _))
                          go_wp2_with fail
                          go_roundg (ne - (e + 1))
                          case measure => go_light; exact hmee
                          case rel => go_light; exact ⟨e + 1, HEL.out, rfl, by simp, HREL.out _⟩
                      · rw [decide_eq_false g2] at H2
                        clear HD g1 g2 HMF
                        go_upto_region 50 with fail
                        go_quiet (first | with_reducible exact Calls.quiet_of_same (H1.out _) | with_reducible exact Calls.quiet_of_same (H2.out _))
                        go_wp2_with fail
                        go_roundg (ne - (e + 1))
                        case measure => go_light; exact hmee
                        case rel => go_light; exact ⟨e + 1, HEL.out, rfl, by simp, HREL.out _⟩
                    · rw [decide_eq_false g1] at H1
                      clear HD g1 HMF H2
                      go_upto_region 50 with fail
                      go_quiet (first | with_reducible exact Calls.quiet_of_same (H1.out _))
                      go_wp2_with fail
                      go_roundg (ne - (e + 1))
                      case measure => go_light; exact hmee
                      case rel => go_light; exact ⟨e + 1, HEL.out, rfl, by simp, HREL.out _⟩
                  · obtain rfl : e = ne := by omega
                    have ze : ¬ (e : Int) < (e : Int) := by omega
                    clear he hel
                    go_wp2_with fail
                    go_roundg (ns - (j + 1))
                    case measure => go_light; exact hmej
                    case rel => go_light; exact ⟨j + 1, HJ.out, rfl, by simp, HM⟩
              · obtain rfl : j = ns := by omega
                have zj : ¬ (j : Int) < (j : Int) := by omega
                have HLV : Hid (Calls Try.prog 13 #[] wr fun e w' => e = .returned (.bool true) ∧ Hid (w.Since w.heap.size w')) := (lives_any wr).mono fun e w' ⟨h1, h2⟩ => ⟨h1, HFN.out w' (HM.out.base.trans (since_mono h2 HM.out.base.size))⟩
                clear hj hjl HM
                go_wp2_with (go_at_call 13; refine HLV.out.mono ?_; rintro e w9 ⟨rfl, HK⟩)
                go_ret
                exact ⟨rfl, HK.out⟩
end Go.Proofs.Ytfmndfgdchhaeaa
