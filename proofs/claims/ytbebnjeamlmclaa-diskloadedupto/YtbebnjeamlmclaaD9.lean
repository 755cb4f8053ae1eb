/- The law's own helper: given. -/
import Derived.Test.YtbebnjeamlmclaaD8
import Derived.Deep.DeepAppendWide
namespace Go.Proofs.Ytbebnjeamlmclaa
open Go.RowKit Go.Maps Go.Sort
set_option maxRecDepth 100000
set_option maxRecDepth 100000

/-- The law's list of files. -/
def Src (w : World) (a : Option Addr) (n : Nat) (nm : Nat → ByteArray) (dl : Nat → Nat) (dx : Nat → Nat → Nat) : Prop :=
  ∀ i, i < n → ∃ b o, a = some ⟨b, o, none⟩ ∧ w.cell? ⟨b, o + i * 2, none⟩ = some (.string (nm i)) ∧ ∃ da dc, w.cell? ⟨b, o + i * 2 + 1, none⟩ = some (.slice da (dl i) dc) ∧ (da = none → dl i = 0 ∧ dc = 0) ∧ Byt w da (dl i) (dx i)
theorem Src.on {w w' : World} {a : Option Addr} {n : Nat} {nm : Nat → ByteArray} {dl : Nat → Nat} {dx : Nat → Nat → Nat} (h : Src w a n nm dl dx) (hb : Below w.heap.size w w') : Src w' a n nm dl dx := fun i hi => by
  obtain ⟨b, o, e, h1, da, dc, h2, h3, h4⟩ := h i hi
  exact ⟨b, o, e, cel_on hb h1, da, dc, cel_on hb h2, h3, h4.on hb⟩
theorem Src.img {w : World} {a : Option Addr} {n : Nat} {nm : Nat → ByteArray} {dl : Nat → Nat} {dx : Nat → Nat → Nat} (h : Src w a n nm dl dx) : Img w a n nm dl dx := fun i hi => by
  obtain ⟨b, o, e, h1, da, dc, h2, h3, h4⟩ := h i hi
  exact ⟨b, o, e, h1, da, dc, h2, h4⟩

/-- append in a region that draws, by its run. -/
theorem step_apps {P : Program} {w w' : World} {ops : Array Oper} {o : Oper} {a : Act} {K : Act → World → Prop} {Q : Exit → Act → World → Prop} {E : Prop} (hgd : o.guard = none) (s x : Operand) (t : TypeId)
    (ho : o.op = .call { callee := .builtin .append, args := #[s, x], argTypes := #[t, t] }) (v u v' : Value) (hs : a.eval s = v) (hx : a.eval x = u)
    (hrun : (Builtin.append_ #[t, t] o.type #[v, u]).run P w = .ok v' w') (h : K (a.put o.dst v') w') : if Region.wanted o (yielded ops a.tmps) = true then Oper.wp P o a w K Q else E := by
  have hw : Region.wanted o (yielded ops a.tmps) = true := by simp [Region.wanted, hgd]
  rw [if_pos hw]
  unfold Oper.wp
  simp [execOp, ho, resolve, invoke, builtin, hs, hx, hrun, Result.andThen]
  exact h

/-- The cells of lent files. -/
def fbCells (nm : Nat → ByteArray) (dl lg lc : Nat → Nat) : Nat → List Value
  | 0 => []
  | n + 1 => fbCells nm dl lg lc n ++ [.string (nm n), .slice (some ⟨lg n, 0, none⟩) (dl n) (lc n)]
theorem fbCells_len (nm : Nat → ByteArray) (dl lg lc : Nat → Nat) : ∀ n, (fbCells nm dl lg lc n).length = n * 2
  | 0 => rfl
  | n + 1 => by show (fbCells nm dl lg lc n ++ _).length = _; rw [List.length_append, fbCells_len nm dl lg lc n]; simp; omega
theorem fbCells_at (nm : Nat → ByteArray) (dl lg lc : Nat → Nat) : ∀ n k, k < n → (fbCells nm dl lg lc n)[k * 2]? = some (.string (nm k)) ∧ (fbCells nm dl lg lc n)[k * 2 + 1]? = some (.slice (some ⟨lg k, 0, none⟩) (dl k) (lc k))
  | 0, k, h => absurd h (Nat.not_lt_zero _)
  | n + 1, k, h => by
    have hl := fbCells_len nm dl lg lc n
    show (fbCells nm dl lg lc n ++ _)[k * 2]? = _ ∧ (fbCells nm dl lg lc n ++ _)[k * 2 + 1]? = _
    by_cases e : k = n
    · subst e
      rw [List.getElem?_append_right (by omega), List.getElem?_append_right (by omega), hl, Nat.sub_self, show k * 2 + 1 - k * 2 = 1 by omega]
      exact ⟨rfl, rfl⟩
    · rw [List.getElem?_append_left (by omega), List.getElem?_append_left (by omega)]
      exact fbCells_at nm dl lg lc n k (by omega)
theorem fbCells_congr (nm : Nat → ByteArray) (dl : Nat → Nat) {lg lc lg' lc' : Nat → Nat} : ∀ n, (∀ i, i < n → lg i = lg' i ∧ lc i = lc' i) → fbCells nm dl lg lc n = fbCells nm dl lg' lc' n
  | 0, _ => rfl
  | n + 1, h => by
    show fbCells nm dl lg lc n ++ _ = fbCells nm dl lg' lc' n ++ _
    rw [fbCells_congr nm dl n (fun i hi => h i (by omega)), (h n (by omega)).1, (h n (by omega)).2]

theorem app_fb {w : World} {K n : Nat} {v : Value} {xs : List Value} (h : w.ownsRow K 28 2 v n xs) (y z : Value) (hy : y.oneCell' = true) (hz : z.oneCell' = true) (hn : n ≤ 1100000) (hK : K ≤ w.heap.size) :
    ∃ v' w', (Builtin.append_ #[22, 22] 22 #[v, .slice (some ⟨w.heap.size, 0, none⟩) 1 1]).run Try.prog (w.alloc (.cells #[y, z] 28)) = .ok v' w' ∧ w'.ownsRow K 28 2 v' (n + 1) (xs ++ [y, z]) ∧ w.grownBy w' v.ownBlock := by
  obtain ⟨i0, hi, hh⟩ := Option.map_eq_some_iff.1 infoFB
  simp only [Prod.mk.injEq] at hh
  obtain ⟨hz0, hz1, hz2⟩ := hh
  have hnews : ∀ j u, [y, z][j]? = some u → (w.alloc (.cells #[y, z] 28)).cell? ((⟨w.heap.size, 0, none⟩ : Addr).add j) = some u := fun j u hj => by
    match j with
    | 0 => simp at hj; subst hj; simp [Addr.add]
    | 1 => simp at hj; subst hj; simp [Addr.add]
    | j + 2 => simp at hj
  have hml : maxLen = 9223372036854775807 := rfl
  obtain ⟨v', w', h1, h2, h3, _⟩ := run_append_own_wide (P := Try.prog) (w.alloc (.cells #[y, z] 28)) K 22 22 28 i0 _ 2 40 Try.underlying22 hi hz0 hz1 hz2 rfl (by decide) v n xs (h.alloc _) ⟨w.heap.size, 0, none⟩ 1 1 [y, z] rfl hnews (fun u hu => by
    rcases List.mem_cons.1 hu with e | hu
    · rw [e]; exact hy
    · rw [List.mem_singleton.1 hu]; exact hz) (by omega) (by omega) (by simp; omega)
  refine ⟨v', w', h1, h2, ?_⟩
  have hsz : (w.alloc (.cells #[y, z] 28)).heap.size = w.heap.size + 1 := by simp
  exact ⟨h3.os, h3.tape, h3.output, by have := h3.size; omega, fun b hb hne => (h3.block b (by omega) hne).trans (Below.heap_alloc _ _ _ hb)⟩

/-- While files are lent. -/
structure Gv (w wx : World) (v : Value) (i : Nat) (nm : Nat → ByteArray) (dl : Nat → Nat) (dx : Nat → Nat → Nat) (lg lc : Nat → Nat) (fl : Nat → Nat → Value) (tl : List Value) (m : Nat) : Prop where
  below : Below w.heap.size w wx
  own : wx.ownsRow w.heap.size 28 2 v m (fbCells nm dl lg lc i ++ tl)
  lent : ∀ k, k < i → Lent wx (lg k) (dl k) (lc k) (dx k) (fl k)
theorem own_on {w w' : World} {K n s : Nat} {e : TypeId} {v : Value} {xs : List Value} (h : w.ownsRow K e s v n xs) (hb : Below w.heap.size w w') : w'.ownsRow K e s v n xs := by
  refine ⟨h.1, ?_⟩
  rcases h.2 with h0 | ⟨g, cap, cur, ev, hk, hq, hr⟩
  · exact .inl h0
  · exact .inr ⟨g, cap, cur, ev, hk, (hb.block g (Array.getElem?_eq_some_iff.1 hq).1).trans hq, hr⟩
theorem Lent.on {w w' : World} {g len cap : Nat} {x : Nat → Nat} {f : Nat → Value} (h : Lent w g len cap x f) (hb : Below w.heap.size w w') : Lent w' g len cap x f := h.since (since_of_below hb)
theorem Gv.on {w wx wy : World} {v : Value} {i : Nat} {nm : Nat → ByteArray} {dl : Nat → Nat} {dx : Nat → Nat → Nat} {lg lc : Nat → Nat} {fl : Nat → Nat → Value} {tl : List Value} {m : Nat} (h : Gv w wx v i nm dl dx lg lc fl tl m) (hb : Below wx.heap.size wx wy) : Gv w wy v i nm dl dx lg lc fl tl m :=
  ⟨h.below.trans (hb.mono h.below.size), own_on h.own hb, fun k hk => (h.lent k hk).on hb⟩
/-- append leaves rows of bytes. -/
theorem lent_grown {w w' : World} {K n g len cap : Nat} {v : Value} {xs : List Value} {x : Nat → Nat} {f : Nat → Value} (h : Lent w g len cap x f) (ho : w.ownsRow K 28 2 v n xs) (hg : w.grownBy w' v.ownBlock) : Lent w' g len cap x f := by
  have hne : v.ownBlock ≠ some g := fun e => by
    rcases ho.2 with ⟨rfl, _⟩ | ⟨q, cap', cur, rfl, _, hq, _⟩
    · simp [Value.ownBlock] at e
    · obtain rfl : q = g := by simpa [Value.ownBlock] using e
      obtain ⟨c, hc, _⟩ := h.row
      rw [hq] at hc
      simp only [Option.some.injEq, Obj.cells.injEq] at hc
      exact absurd hc.2.1 (by decide)
  exact ⟨h.row.of_block (hg.block g h.row.lt (fun e => hne e.symm)), h.room, h.cap, h.byte, h.k0, h.k1, h.k2⟩
theorem own_ge {w : World} {K n s : Nat} {e : TypeId} {v : Value} {xs : List Value} (h : w.ownsRow K e s v n xs) : ∀ b, v.ownBlock = some b → K ≤ b := fun b hb => by
  rcases h.2 with ⟨rfl, _⟩ | ⟨g, cap, cur, rfl, hk, _⟩
  · simp [Value.ownBlock] at hb
  · have : g = b := by simpa [Value.ownBlock] using hb
    omega
/-- One more. -/
theorem Gv.push {w wx w2 : World} {v : Value} {i : Nat} {nm : Nat → ByteArray} {dl : Nat → Nat} {dx : Nat → Nat → Nat} {lg lc : Nat → Nat} {fl : Nat → Nat → Value} (h : Gv w wx v i nm dl dx lg lc fl [] i) (hb : Below wx.heap.size wx w2) (hi : i ≤ 1048576) {g c : Nat} {f : Nat → Value} (hl : Lent w2 g (dl i) c (dx i) f) :
    ∃ v' w3, (Builtin.append_ #[22, 22] 22 #[v, .slice (some ⟨w2.heap.size, 0, none⟩) 1 1]).run Try.prog (w2.alloc (.cells #[.string (nm i), .slice (some ⟨g, 0, none⟩) (dl i) c] 28)) = .ok v' w3 ∧ ∃ lg' lc' fl', Gv w w3 v' (i + 1) nm dl dx lg' lc' fl' [] (i + 1) := by
  have h2 := h.on hb
  obtain ⟨v', w3, hr, ho, hg⟩ := app_fb h2.own (.string (nm i)) (.slice (some ⟨g, 0, none⟩) (dl i) c) rfl rfl (by omega) h2.below.size
  refine ⟨v', w3, hr, fput lg i g, fput lc i c, fun k => if k = i then f else fl k, ⟨h2.below.grown hg h2.below.size (fun b hb => own_ge h2.own b hb), ?_, fun k hk => ?_⟩⟩
  · rw [List.append_nil] at ho ⊢
    show w3.ownsRow _ _ 2 v' (i + 1) (fbCells nm dl (fput lg i g) (fput lc i c) i ++ [.string (nm i), .slice (some ⟨fput lg i g i, 0, none⟩) (dl i) (fput lc i c i)])
    have e1 : fput lg i g i = g := by unfold fput; rw [if_pos rfl]
    have e2 : fput lc i c i = c := by unfold fput; rw [if_pos rfl]
    rw [e1, e2, ← fbCells_congr nm dl (lg := lg) (lc := lc) i (fun j hj => by unfold fput; rw [if_neg (by omega), if_neg (by omega)]; exact ⟨rfl, rfl⟩)]
    exact ho
  · by_cases e : k = i
    · subst e
      have e1 : fput lg k g k = g := by unfold fput; rw [if_pos rfl]
      have e2 : fput lc k c k = c := by unfold fput; rw [if_pos rfl]
      rw [e1, e2, if_pos rfl]
      exact lent_grown hl h2.own hg
    · have e1 : fput lg i g k = lg k := by unfold fput; rw [if_neg e]
      have e2 : fput lc i c k = lc k := by unfold fput; rw [if_neg e]
      rw [e1, e2, if_neg e]
      exact lent_grown (h2.lent k (by omega)) h2.own hg
theorem Gv.mark {w wx : World} {v : Value} {i : Nat} {nm : Nat → ByteArray} {dl : Nat → Nat} {dx : Nat → Nat → Nat} {lg lc : Nat → Nat} {fl : Nat → Nat → Value} (h : Gv w wx v i nm dl dx lg lc fl [] i) (hi : i ≤ 1048576) (s : ByteArray) :
    ∃ v' w3, (Builtin.append_ #[22, 22] 22 #[v, .slice (some ⟨wx.heap.size, 0, none⟩) 1 1]).run Try.prog (wx.alloc (.cells #[.string s, .slice none 0 0] 28)) = .ok v' w3 ∧ Gv w w3 v' i nm dl dx lg lc fl [.string s, .slice none 0 0] (i + 1) := by
  obtain ⟨v', w3, hr, ho, hg⟩ := app_fb h.own (.string s) (.slice none 0 0) rfl rfl (by omega) h.below.size
  rw [List.append_nil] at ho
  exact ⟨v', w3, hr, ⟨h.below.grown hg h.below.size (fun b hb => own_ge h.own b hb), ho, fun k hk => lent_grown (h.lent k hk) h.own hg⟩⟩
end Go.Proofs.Ytbebnjeamlmclaa
