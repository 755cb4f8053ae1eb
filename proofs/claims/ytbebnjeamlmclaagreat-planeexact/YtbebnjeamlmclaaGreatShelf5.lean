/- The walk of Shelf.Ints. -/
import Derived.Test.YtbebnjeamlmclaaGreatShelf4
import Derived.Deep.RegionLaw
namespace Go.Proofs.YtbebnjeamlmclaaGreat
open Go.RowKit Go.Shelf Go.Sort
set_option maxRecDepth 100000
set_option maxRecDepth 100000

/-- append in a region that draws, by its run. -/
theorem step_apps {P : Program} {w w' : World} {ops : Array Oper} {o : Oper} {a : Act} {K : Act → World → Prop} {Q : Exit → Act → World → Prop} {E : Prop} (hgd : o.guard = none) (s x : Operand) (t : TypeId)
    (ho : o.op = .call { callee := .builtin .append, args := #[s, x], argTypes := #[t, t] }) (v u v' : Value) (hs : a.eval s = v) (hx : a.eval x = u)
    (hrun : (Builtin.append_ #[t, t] o.type #[v, u]).run P w = .ok v' w') (h : K (a.put o.dst v') w') : if Region.wanted o (yielded ops a.tmps) = true then Oper.wp P o a w K Q else E := by
  have hw : Region.wanted o (yielded ops a.tmps) = true := by simp [Region.wanted, hgd]
  rw [if_pos hw]
  unfold Oper.wp
  simp [execOp, ho, resolve, invoke, builtin, hs, hx, hrun, Result.andThen]
  exact h

set_option maxHeartbeats 4000000 in
theorem shelf_ints {w W : World} {xb sz N : Nat} {kv ov : Value} {ks os : List Value} (h : Sh w W xb sz N N kv ov ks os) {a : Option Addr} {n c : Nat} {f : Nat → Int} (hl : W.ownsRow w.heap.size 3 1 (.slice a n c) n ((List.range n).map fun j => .int .i64 (f j))) (hn : n ≤ 1048576) (hN : N ≤ 1000) (hsz : sz ≤ 1000000000000)
    (hfree : ∀ (j : Nat) (u : Value), ks[j]? = some u → ∀ b, u.ownBlock = some b → (Value.slice a n c).ownBlock ≠ some b) :
    Calls Tryz.prog 6 #[.pointer (some ⟨xb, 0, none⟩), .slice a n c] W fun e w' => e = .returned (.tuple #[]) ∧ (∀ u m ys, W.ownsRow w.heap.size 3 1 u m ys → w'.ownsRow w.heap.size 3 1 u m ys) ∧
      ∃ N' kv' ov' ks' os', N' ≤ N + 1 ∧ (ks' = ks ∨ ks' = ks ++ [.slice a n c]) ∧ Sh w w' xb (sz + 8 * n + 50) N' N' kv' ov' ks' os' := by
  have hh := shelf_holds xb sz (8 * n) kv ov W h.row hsz (by omega)
  have hs1 := h.size (sz' := sz + 8 * n + 50)
  have k1 : ∀ u m ys, W.ownsRow w.heap.size 3 1 u m ys → (W.setCell ⟨xb, 0, none⟩ (.int .i64 ((sz + 8 * n + 50 : Nat) : Int))).ownsRow w.heap.size 3 1 u m ys := fun u m ys hu => set_owns hu h.row (by decide)
  have hkl : ks.length = N := by have := h.k.row.1; omega
  generalize W.setCell ⟨xb, 0, none⟩ (.int .i64 ((sz + 8 * n + 50 : Nat) : Int)) = W1 at *
  have hl1 := k1 _ _ _ hl
  obtain ⟨ka, kc, W2, hr1, p0, p1, p2, hs2, k2⟩ := hs1.add1 hl1 hn (by omega) hfree
  have hl2 := k2 _ _ _ hl1
  have hs3 := hs2.on (Below.drew (Below.refl _ _))
  obtain ⟨ca, cc, W4, oa, oc, W5, hr2, q0, q1, hr3, q2, q3, hs4, k3⟩ := hs3.add2 (below_own hl2 (Below.drew (Below.refl _ _))) hn (by omega) hkl
  have hz3 : (W2.setCell ⟨xb, 1, none⟩ (.slice ka (N + 1) kc)).drew.heap.size = W2.heap.size := by show (W2.setCell ⟨xb, 1, none⟩ (.slice ka (N + 1) kc)).heap.size = _; simp [World.setCell]
  rw [hz3] at hr2
  clear hz3
  have H1 : Hid _ := hr1
  have H2 : Hid _ := hr2
  have H3 : Hid _ := hr3
  have q0' : (W2.setCell ⟨xb, 1, none⟩ (.slice ka (N + 1) kc)).cell? ⟨xb, 2, none⟩ = some ov := hs2.row.cell (i := 2) (by decide)
  have q0a : ((W2.setCell ⟨xb, 1, none⟩ (.slice ka (N + 1) kc)).alloc (.cells #[] 3)).cell? ⟨xb, 2, none⟩ = some ov := (hs2.row.alloc _).cell (i := 2) (by decide)
  have q1a : (W4.alloc (.cells #[.slice ca n cc] 31)).cell? ⟨xb, 2, none⟩ = some ov := cel_on (Below.alloc (Below.refl _ W4) (Nat.le_refl _) _) q1
  have HK : Hid (∀ u m ys, W.ownsRow w.heap.size 3 1 u m ys → (W5.setCell ⟨xb, 2, none⟩ (.slice oa (N + 1) oc)).ownsRow w.heap.size 3 1 u m ys) := fun u m ys hu => k3 _ _ _ (below_own (k2 _ _ _ (k1 _ _ _ hu)) (Below.drew (Below.refl _ _)))
  have hnz : (n : Int) ≤ 1048576 := by omega
  have e8 : ((8 * n : Nat) : Int) = 8 * (n : Int) := by push_cast; rfl
  rw [e8] at hh
  clear hr1 hr2 hr3 hs2 hs3 k2 k3 hl hl1 hl2 h hfree
  go_enter Tryz.func6, Tryz.ntmps6
  go_wp2_with fail
  refine hh.mono ?_
  rintro e w2 ⟨rfl, rfl⟩
  clear hh
  by_cases hle : sz + 8 * n + 50 ≤ 4194304
  · rw [decide_eq_true hle]
    go_wp2_with (at_builtin; refine wpList_apps rfl _ _ 24 rfl _ _ _ (by rfl) (by rfl) H1.out ?_)
    go_region_law (first | (refine step_apps (by rfl) _ _ 31 (by rfl) _ _ _ (by rfl) (by rfl) H2.out ?_) | (refine step_apps (by rfl) _ _ 24 (by rfl) _ _ _ (by rfl) (by rfl) H3.out ?_))
    all_goals
      go_wp2_with fail
      go_end0
      exact ⟨rfl, HK.out, N + 1, _, _, _, _, Nat.le_refl _, .inr rfl, hs4⟩
  · rw [decide_eq_false hle]
    go_wp2_with fail
    go_end0
    exact ⟨rfl, k1, N, kv, ov, ks, os, by omega, .inl rfl, hs1⟩
end Go.Proofs.YtbebnjeamlmclaaGreat
