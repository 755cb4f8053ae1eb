/- Own texts, joined: D9, D10, D11, G1, G2, G3, G4, G5. -/
import Derived.Test.YtbnlgohaaadgeaaM3
import Derived.Deep.DeepAppendWide
import Derived.Test.YtbnlgohaaadgeaaM6
import Derived.Laws.BytesArg
import Derived.Lib.SlBytesConst
import Derived.Lib.SmallJoins
import Derived.Deep.RegionHeld3

/- The law's own helper: given. -/
namespace Go.Proofs.Ytbnlgohaaadgeaa
open Go.RowKit Go.Maps Go.Sort
set_option maxRecDepth 100000
set_option maxRecDepth 100000

/-- The law's list of files. -/
def Src (w : World) (a : Option Addr) (n : Nat) (nm : Nat → ByteArray) (dl : Nat → Nat) (dx : Nat → Nat → Nat) : Prop :=
  ∀ i, i < n → ∃ b o, a = some ⟨b, o, none⟩ ∧ w.cell? ⟨b, o + i * 2, none⟩ = some (.string (nm i)) ∧ ∃ da dc, w.cell? ⟨b, o + i * 2 + 1, none⟩ = some (.slice da (dl i) dc) ∧ (da = none → dl i = 0 ∧ dc = 0) ∧ Byt w da (dl i) (dx i)
theorem Src.on {w w' : World} {a : Option Addr} {n : Nat} {nm : Nat → ByteArray} {dl : Nat → Nat} {dx : Nat → Nat → Nat} (h : Src w a n nm dl dx) (hb : Below w.heap.size w w') : Src w' a n nm dl dx := fun i hi => by
  obtain ⟨b, o, e, h1, da, dc, h2, h3, h4⟩ := h i hi
  exact ⟨b, o, e, cel_on hb h1, da, dc, cel_on hb h2, h3, h4.on hb⟩
theorem Src.img {w : World} {a : Option Addr} {n : Nat} {nm : Nat → ByteArray} {dl : Nat → Nat} {dx : Nat → Nat → Nat} (h : Src w a n nm dl dx) : Img w a n nm dl dx := fun i hi => by
  obtain ⟨b, o, e, h1, da, dc, h2, h3, h4⟩ := h i hi
  exact ⟨b, o, e, h1, da, dc, h2, h4⟩

/-- append in a region that draws, by its run. -/
theorem step_apps {P : Program} {w w' : World} {ops : Array Oper} {o : Oper} {a : Act} {K : Act → World → Prop} {Q : Exit → Act → World → Prop} {E : Prop} (hgd : o.guard = none) (s x : Operand) (t : TypeId)
    (ho : o.op = .call { callee := .builtin .append, args := #[s, x], argTypes := #[t, t] }) (v u v' : Value) (hs : a.eval s = v) (hx : a.eval x = u)
    (hrun : (Builtin.append_ #[t, t] o.type #[v, u]).run P w = .ok v' w') (h : K (a.put o.dst v') w') : if Region.wanted o (yielded ops a.tmps) = true then Oper.wp P o a w K Q else E := by
  have hw : Region.wanted o (yielded ops a.tmps) = true := by simp [Region.wanted, hgd]
  rw [if_pos hw]
  unfold Oper.wp
  simp [execOp, ho, resolve, invoke, builtin, hs, hx, hrun, Result.andThen]
  exact h

/-- The cells of lent files. -/
def fbCells (nm : Nat → ByteArray) (dl lg lc : Nat → Nat) : Nat → List Value
  | 0 => []
  | n + 1 => fbCells nm dl lg lc n ++ [.string (nm n), .slice (some ⟨lg n, 0, none⟩) (dl n) (lc n)]
theorem fbCells_len (nm : Nat → ByteArray) (dl lg lc : Nat → Nat) : ∀ n, (fbCells nm dl lg lc n).length = n * 2
  | 0 => rfl
  | n + 1 => by show (fbCells nm dl lg lc n ++ _).length = _; rw [List.length_append, fbCells_len nm dl lg lc n]; simp; omega
theorem fbCells_at (nm : Nat → ByteArray) (dl lg lc : Nat → Nat) : ∀ n k, k < n → (fbCells nm dl lg lc n)[k * 2]? = some (.string (nm k)) ∧ (fbCells nm dl lg lc n)[k * 2 + 1]? = some (.slice (some ⟨lg k, 0, none⟩) (dl k) (lc k))
  | 0, k, h => absurd h (Nat.not_lt_zero _)
  | n + 1, k, h => by
    have hl := fbCells_len nm dl lg lc n
    show (fbCells nm dl lg lc n ++ _)[k * 2]? = _ ∧ (fbCells nm dl lg lc n ++ _)[k * 2 + 1]? = _
    by_cases e : k = n
    · subst e
      rw [List.getElem?_append_right (by omega), List.getElem?_append_right (by omega), hl, Nat.sub_self, show k * 2 + 1 - k * 2 = 1 by omega]
      exact ⟨rfl, rfl⟩
    · rw [List.getElem?_append_left (by omega), List.getElem?_append_left (by omega)]
      exact fbCells_at nm dl lg lc n k (by omega)
theorem fbCells_congr (nm : Nat → ByteArray) (dl : Nat → Nat) {lg lc lg' lc' : Nat → Nat} : ∀ n, (∀ i, i < n → lg i = lg' i ∧ lc i = lc' i) → fbCells nm dl lg lc n = fbCells nm dl lg' lc' n
  | 0, _ => rfl
  | n + 1, h => by
    show fbCells nm dl lg lc n ++ _ = fbCells nm dl lg' lc' n ++ _
    rw [fbCells_congr nm dl n (fun i hi => h i (by omega)), (h n (by omega)).1, (h n (by omega)).2]

theorem app_fb {w : World} {K n : Nat} {v : Value} {xs : List Value} (h : w.ownsRow K 51 2 v n xs) (y z : Value) (hy : y.oneCell' = true) (hz : z.oneCell' = true) (hn : n ≤ 1100000) (hK : K ≤ w.heap.size) :
    ∃ v' w', (Builtin.append_ #[35, 35] 35 #[v, .slice (some ⟨w.heap.size, 0, none⟩) 1 1]).run Try.prog (w.alloc (.cells #[y, z] 51)) = .ok v' w' ∧ w'.ownsRow K 51 2 v' (n + 1) (xs ++ [y, z]) ∧ w.grownBy w' v.ownBlock := by
  obtain ⟨i0, hi, hh⟩ := Option.map_eq_some_iff.1 infoFB
  simp only [Prod.mk.injEq] at hh
  obtain ⟨hz0, hz1, hz2⟩ := hh
  have hnews : ∀ j u, [y, z][j]? = some u → (w.alloc (.cells #[y, z] 51)).cell? ((⟨w.heap.size, 0, none⟩ : Addr).add j) = some u := fun j u hj => by
    match j with
    | 0 => simp at hj; subst hj; simp [Addr.add]
    | 1 => simp at hj; subst hj; simp [Addr.add]
    | j + 2 => simp at hj
  have hml : maxLen = 9223372036854775807 := rfl
  obtain ⟨v', w', h1, h2, h3, _⟩ := run_append_own_wide (P := Try.prog) (w.alloc (.cells #[y, z] 51)) K 35 35 51 i0 _ 2 40 Try.underlying35 hi hz0 hz1 hz2 rfl (by decide) v n xs (h.alloc _) ⟨w.heap.size, 0, none⟩ 1 1 [y, z] rfl hnews (fun u hu => by
    rcases List.mem_cons.1 hu with e | hu
    · rw [e]; exact hy
    · rw [List.mem_singleton.1 hu]; exact hz) (by omega) (by omega) (by simp; omega)
  refine ⟨v', w', h1, h2, ?_⟩
  have hsz : (w.alloc (.cells #[y, z] 51)).heap.size = w.heap.size + 1 := by simp
  exact ⟨h3.os, h3.tape, h3.output, by have := h3.size; omega, fun b hb hne => (h3.block b (by omega) hne).trans (Below.heap_alloc _ _ _ hb)⟩

/-- While files are lent. -/
structure Gv (w wx : World) (v : Value) (i : Nat) (nm : Nat → ByteArray) (dl : Nat → Nat) (dx : Nat → Nat → Nat) (lg lc : Nat → Nat) (fl : Nat → Nat → Value) (tl : List Value) (m : Nat) : Prop where
  below : Below w.heap.size w wx
  own : wx.ownsRow w.heap.size 51 2 v m (fbCells nm dl lg lc i ++ tl)
  lent : ∀ k, k < i → Lent wx (lg k) (dl k) (lc k) (dx k) (fl k)
theorem own_on {w w' : World} {K n s : Nat} {e : TypeId} {v : Value} {xs : List Value} (h : w.ownsRow K e s v n xs) (hb : Below w.heap.size w w') : w'.ownsRow K e s v n xs := by
  refine ⟨h.1, ?_⟩
  rcases h.2 with h0 | ⟨g, cap, cur, ev, hk, hq, hr⟩
  · exact .inl h0
  · exact .inr ⟨g, cap, cur, ev, hk, (hb.block g (Array.getElem?_eq_some_iff.1 hq).1).trans hq, hr⟩
theorem Lent.on {w w' : World} {g len cap : Nat} {x : Nat → Nat} {f : Nat → Value} (h : Lent w g len cap x f) (hb : Below w.heap.size w w') : Lent w' g len cap x f := h.since (since_of_below hb)
theorem Gv.on {w wx wy : World} {v : Value} {i : Nat} {nm : Nat → ByteArray} {dl : Nat → Nat} {dx : Nat → Nat → Nat} {lg lc : Nat → Nat} {fl : Nat → Nat → Value} {tl : List Value} {m : Nat} (h : Gv w wx v i nm dl dx lg lc fl tl m) (hb : Below wx.heap.size wx wy) : Gv w wy v i nm dl dx lg lc fl tl m :=
  ⟨h.below.trans (hb.mono h.below.size), own_on h.own hb, fun k hk => (h.lent k hk).on hb⟩
/-- append leaves rows of bytes. -/
theorem lent_grown {w w' : World} {K n g len cap : Nat} {v : Value} {xs : List Value} {x : Nat → Nat} {f : Nat → Value} (h : Lent w g len cap x f) (ho : w.ownsRow K 51 2 v n xs) (hg : w.grownBy w' v.ownBlock) : Lent w' g len cap x f := by
  have hne : v.ownBlock ≠ some g := fun e => by
    rcases ho.2 with ⟨rfl, _⟩ | ⟨q, cap', cur, rfl, _, hq, _⟩
    · simp [Value.ownBlock] at e
    · obtain rfl : q = g := by simpa [Value.ownBlock] using e
      obtain ⟨c, hc, _⟩ := h.row
      rw [hq] at hc
      simp only [Option.some.injEq, Obj.cells.injEq] at hc
      exact absurd hc.2.1 (by decide)
  exact ⟨h.row.of_block (hg.block g h.row.lt (fun e => hne e.symm)), h.room, h.cap, h.byte, h.k0, h.k1, h.k2⟩
theorem own_ge {w : World} {K n s : Nat} {e : TypeId} {v : Value} {xs : List Value} (h : w.ownsRow K e s v n xs) : ∀ b, v.ownBlock = some b → K ≤ b := fun b hb => by
  rcases h.2 with ⟨rfl, _⟩ | ⟨g, cap, cur, rfl, hk, _⟩
  · simp [Value.ownBlock] at hb
  · have : g = b := by simpa [Value.ownBlock] using hb
    omega
/-- One more. -/
theorem Gv.push {w wx w2 : World} {v : Value} {i : Nat} {nm : Nat → ByteArray} {dl : Nat → Nat} {dx : Nat → Nat → Nat} {lg lc : Nat → Nat} {fl : Nat → Nat → Value} (h : Gv w wx v i nm dl dx lg lc fl [] i) (hb : Below wx.heap.size wx w2) (hi : i ≤ 1048576) {g c : Nat} {f : Nat → Value} (hl : Lent w2 g (dl i) c (dx i) f) :
    ∃ v' w3, (Builtin.append_ #[35, 35] 35 #[v, .slice (some ⟨w2.heap.size, 0, none⟩) 1 1]).run Try.prog (w2.alloc (.cells #[.string (nm i), .slice (some ⟨g, 0, none⟩) (dl i) c] 51)) = .ok v' w3 ∧ ∃ lg' lc' fl', Gv w w3 v' (i + 1) nm dl dx lg' lc' fl' [] (i + 1) := by
  have h2 := h.on hb
  obtain ⟨v', w3, hr, ho, hg⟩ := app_fb h2.own (.string (nm i)) (.slice (some ⟨g, 0, none⟩) (dl i) c) rfl rfl (by omega) h2.below.size
  refine ⟨v', w3, hr, fput lg i g, fput lc i c, fun k => if k = i then f else fl k, ⟨h2.below.grown hg h2.below.size (fun b hb => own_ge h2.own b hb), ?_, fun k hk => ?_⟩⟩
  · rw [List.append_nil] at ho ⊢
    show w3.ownsRow _ _ 2 v' (i + 1) (fbCells nm dl (fput lg i g) (fput lc i c) i ++ [.string (nm i), .slice (some ⟨fput lg i g i, 0, none⟩) (dl i) (fput lc i c i)])
    have e1 : fput lg i g i = g := by unfold fput; rw [if_pos rfl]
    have e2 : fput lc i c i = c := by unfold fput; rw [if_pos rfl]
    rw [e1, e2, ← fbCells_congr nm dl (lg := lg) (lc := lc) i (fun j hj => by unfold fput; rw [if_neg (by omega), if_neg (by omega)]; exact ⟨rfl, rfl⟩)]
    exact ho
  · by_cases e : k = i
    · subst e
      have e1 : fput lg k g k = g := by unfold fput; rw [if_pos rfl]
      have e2 : fput lc k c k = c := by unfold fput; rw [if_pos rfl]
      rw [e1, e2, if_pos rfl]
      exact lent_grown hl h2.own hg
    · have e1 : fput lg i g k = lg k := by unfold fput; rw [if_neg e]
      have e2 : fput lc i c k = lc k := by unfold fput; rw [if_neg e]
      rw [e1, e2, if_neg e]
      exact lent_grown (h2.lent k (by omega)) h2.own hg
theorem Gv.mark {w wx : World} {v : Value} {i : Nat} {nm : Nat → ByteArray} {dl : Nat → Nat} {dx : Nat → Nat → Nat} {lg lc : Nat → Nat} {fl : Nat → Nat → Value} (h : Gv w wx v i nm dl dx lg lc fl [] i) (hi : i ≤ 1048576) (s : ByteArray) :
    ∃ v' w3, (Builtin.append_ #[35, 35] 35 #[v, .slice (some ⟨wx.heap.size, 0, none⟩) 1 1]).run Try.prog (wx.alloc (.cells #[.string s, .slice none 0 0] 51)) = .ok v' w3 ∧ Gv w w3 v' i nm dl dx lg lc fl [.string s, .slice none 0 0] (i + 1) := by
  obtain ⟨v', w3, hr, ho, hg⟩ := app_fb h.own (.string s) (.slice none 0 0) rfl rfl (by omega) h.below.size
  rw [List.append_nil] at ho
  exact ⟨v', w3, hr, ⟨h.below.grown hg h.below.size (fun b hb => own_ge h.own b hb), ho, fun k hk => lent_grown (h.lent k hk) h.own hg⟩⟩
end Go.Proofs.Ytbnlgohaaadgeaa

/- The law's own helpers: given, untouched; tallyref0.Cmp, Eq, EqImage of the same. -/
namespace Go.Proofs.Ytbnlgohaaadgeaa
open Go.RowKit Go.Maps Go.Sort
set_option maxRecDepth 100000
set_option maxRecDepth 100000

def markS : ByteArray := { data := #[35, 109, 97, 114, 107] }
/-- What given hands out. -/
structure Giv (w : World) (gb cap n : Nat) (nm : Nat → ByteArray) (dl : Nat → Nat) (dx : Nat → Nat → Nat) (lg lc : Nat → Nat) (fl : Nat → Nat → Value) : Prop where
  room : n + 1 ≤ cap
  files : ∀ k, k < n → w.cell? ⟨gb, k * 2, none⟩ = some (.string (nm k)) ∧ w.cell? ⟨gb, k * 2 + 1, none⟩ = some (.slice (some ⟨lg k, 0, none⟩) (dl k) (lc k)) ∧ Lent w (lg k) (dl k) (lc k) (dx k) (fl k)
  mark : w.cell? ⟨gb, n * 2, none⟩ = some (.string markS)
theorem Giv.on {w w' : World} {gb cap n : Nat} {nm : Nat → ByteArray} {dl : Nat → Nat} {dx : Nat → Nat → Nat} {lg lc : Nat → Nat} {fl : Nat → Nat → Value} (h : Giv w gb cap n nm dl dx lg lc fl) (hb : Below w.heap.size w w') : Giv w' gb cap n nm dl dx lg lc fl :=
  ⟨h.room, fun k hk => by obtain ⟨h1, h2, h3⟩ := h.files k hk; exact ⟨cel_on hb h1, cel_on hb h2, h3.on hb⟩, cel_on hb h.mark⟩
theorem Giv.img {w : World} {gb cap n : Nat} {nm : Nat → ByteArray} {dl : Nat → Nat} {dx : Nat → Nat → Nat} {lg lc : Nat → Nat} {fl : Nat → Nat → Value} (h : Giv w gb cap n nm dl dx lg lc fl) : Img w (some ⟨gb, 0, none⟩) n nm dl dx := fun i hi => by
  obtain ⟨h1, h2, h3⟩ := h.files i hi
  exact ⟨gb, 0, rfl, by rw [Nat.zero_add]; exact h1, _, _, by rw [Nat.zero_add]; exact h2, h3.byt⟩

set_option maxHeartbeats 800000 in
theorem cmp_same (a b : Option Addr) (n c d : Nat) (x : Nat → Nat) (w : World) (ha : Byt w a n x) (hb : Byt w b n x) (hmax : n ≤ 140737488355328) :
    Calls Try.prog 49 #[.slice a n c, .slice b n d] w fun e w' => e = .returned (.int .i64 0) ∧ ∃ m, w' = w.drewN m := by
  have hm : (n : Int) ≤ 140737488355328 := by omega
  go_enter Try.func49, Try.ntmps49
  go_wp2_with fail
  go_loopg [5] n (fun q s5 wx => ∃ (i m : Nat), i ≤ n ∧ q = n - i ∧ s5 = .int .i64 i ∧ wx = w.drewN m)
  case atStart => exact ⟨0, 0, Nat.zero_le _, rfl, rfl, rfl⟩
  case round =>
    obtain ⟨i, m, hi, rfl, rfl, rfl⟩ := hrel
    by_cases hlt : i < n
    · obtain ⟨b1, o1, rfl, hc1⟩ := ha i hlt
      obtain ⟨b2, o2, rfl, hc2⟩ := hb i hlt
      have hc1' : (w.drewN m).cell? ⟨b1, o1 + i, none⟩ = some (.int .u8 (x i : Nat)) := hc1
      have hc2' : (w.drewN m).cell? ⟨b2, o2 + i, none⟩ = some (.int .u8 (x i : Nat)) := hc2
      have hz : (i : Int) < (n : Int) := by omega
      have HD : Hid (∀ n, (w.drewN m).drewN n = w.drewN (m + n)) := fun n => World.drewN_drewN _ _ _
      generalize w.drewN m = wd at *
      clear hc1 hc2 ha hb
      go_wp2_with fail
      go_quiet (fail)
      go_wp2_with fail
      go_quiet (fail)
      go_wp2_with fail
      go_roundg (n - (i + 1))
      case measure => go_light; omega
      case rel => go_light; exact ⟨i + 1, _, by omega, rfl, by simp, (unhide HD) _⟩
    · obtain rfl : i = n := by omega
      clear ha hb
      go_wp2_with fail
      go_ret
      exact ⟨rfl, m, rfl⟩
theorem eq_same (a b : Option Addr) (n c d : Nat) (x : Nat → Nat) (w : World) (ha : Byt w a n x) (hb : Byt w b n x) (hmax : n ≤ 140737488355328) :
    Calls Try.prog 21 #[.slice a n c, .slice b n d] w fun e w' => e = .returned (.bool true) ∧ ∃ m, w' = w.drewN m := by
  have hc := cmp_same a b n c d x w ha hb hmax
  go_enter Try.func21, Try.ntmps21
  go_wp2_with fail
  refine hc.mono ?_
  rintro e w1 ⟨rfl, m, rfl⟩
  go_wp2_with fail
  go_ret
  exact ⟨rfl, m, rfl⟩
theorem num_any (e : Int) (w : World) : Calls Try.prog 15 #[.int .i64 e] w fun r w' => r = .returned (.int .i64 e) ∧ w' = w := by
  go_enter Try.func15, Try.ntmps15
  go_wp2
  go_ret
  exact ⟨rfl, rfl⟩

set_option maxHeartbeats 1600000 in
theorem eqImage_same (a b : Option Addr) (n c d : Nat) (nm : Nat → ByteArray) (dl : Nat → Nat) (dx : Nat → Nat → Nat) (w : World) (ha : Img w a n nm dl dx) (hb : Img w b n nm dl dx) (hn : n ≤ 1048576) (hd : ∀ i, i < n → dl i ≤ 1048576) :
    Calls Try.prog 48 #[.slice a n c, .slice b n d] w fun e w' => e = .returned (.bool true) ∧ ∃ m, w' = w.drewN m := by
  have HA : Hid _ := ha
  have HB : Hid _ := hb
  have HL : Hid _ := hd
  have hm : (n : Int) ≤ 1048576 := by omega
  clear ha hb hd
  go_enter Try.func48, Try.ntmps48
  go_wp2_with fail
  go_loopg [5] n (fun q s5 wx => ∃ (i m : Nat), i ≤ n ∧ q = n - i ∧ s5 = .int .i64 i ∧ wx = w.drewN m)
  case atStart => exact ⟨0, 0, Nat.zero_le _, rfl, rfl, rfl⟩
  case round =>
    obtain ⟨i, m, hi, rfl, rfl, rfl⟩ := hrel
    by_cases hlt : i < n
    · obtain ⟨b1, o1, rfl, p1, da1, dc1, p2, p3⟩ := HA.out i hlt
      obtain ⟨b2, o2, rfl, q1, da2, dc2, q2, q3⟩ := HB.out i hlt
      have r1 : (w.drewN m).cell? ⟨b1, o1 + i * 2, none⟩ = some (.string (nm i)) := p1
      have r2 : (w.drewN m).cell? ⟨b1, o1 + i * 2 + 1, none⟩ = some (.slice da1 (dl i) dc1) := p2
      have t1 : (w.drewN m).cell? ⟨b2, o2 + i * 2, none⟩ = some (.string (nm i)) := q1
      have t2 : (w.drewN m).cell? ⟨b2, o2 + i * 2 + 1, none⟩ = some (.slice da2 (dl i) dc2) := q2
      have hz : (i : Int) < (n : Int) := by omega
      have HC : Hid (∀ k, Calls Try.prog 49 #[.slice da1 (dl i) dc1, .slice da2 (dl i) dc2] ((w.drewN m).drewN k) fun e w' => e = .returned (.int .i64 0) ∧ ∃ j, w' = ((w.drewN m).drewN k).drewN j) := fun k => cmp_same da1 da2 (dl i) dc1 dc2 (dx i) ((w.drewN m).drewN k) ((p3.drewN m).drewN k) ((q3.drewN m).drewN k) (by have := HL.out i hlt; omega)
      have hne : ∀ W, (binOp .neq 9 (.string (nm i)) (.string (nm i))).run Try.prog W = .ok (.bool false) W := fun W => by simp [binOp, Op.stringOp]
      have HD : Hid (∀ n, (w.drewN m).drewN n = w.drewN (m + n)) := fun n => World.drewN_drewN _ _ _
      generalize w.drewN m = wd at *
      clear p1 p2 p3 q1 q2 q3
      generalize nm i = s at *
      generalize dl i = d at *
      go_wp2_with fail
      go_quiet (exact Calls.quiet_of (HC.out _))
      go_wp2_with fail
      go_roundg (n - (i + 1))
      case measure => go_light; omega
      case rel => go_light; exact ⟨i + 1, _, by omega, rfl, by simp, HD.out _⟩
    · obtain rfl : i = n := by omega
      go_wp2_with fail
      go_ret
      exact ⟨rfl, m, rfl⟩
end Go.Proofs.Ytbnlgohaaadgeaa

/- The law's own helpers: untouched, image. -/
namespace Go.Proofs.Ytbnlgohaaadgeaa
open Go.RowKit Go.Maps Go.Sort
set_option maxRecDepth 100000
set_option maxRecDepth 100000

theorem image_same (a b : Option Addr) (n c d : Nat) (nm : Nat → ByteArray) (dl : Nat → Nat) (dx : Nat → Nat → Nat) (w : World) (ha : Img w a n nm dl dx) (hb : Img w b n nm dl dx) (hn : n ≤ 1048576) (hd : ∀ i, i < n → dl i ≤ 1048576) :
    Calls Try.prog 16 #[.slice a n c, .slice b n d] w fun e w' => e = .returned (.bool true) ∧ ∃ m, w' = w.drewN m := by
  have hc := eqImage_same a b n c d nm dl dx w ha hb hn hd
  clear ha hb hd
  go_enter Try.func16, Try.ntmps16
  go_wp2_with fail
  refine hc.mono ?_
  rintro e w1 ⟨rfl, m, rfl⟩
  go_wp2_with fail
  go_ret
  exact ⟨rfl, m, rfl⟩

end Go.Proofs.Ytbnlgohaaadgeaa

/- The law's own helpers: New, play. -/
namespace Go.Proofs.Ytbnlgohaaadgeaa
open Go.RowKit Go.Maps Go.Sort
set_option maxRecDepth 100000
set_option maxRecDepth 100000

/-- An empty disk. -/
def emptyP (room : Nat) : DM := ⟨room, .map [], .map [], [], false, 0, 0, 0, 0, 0, fun _ => m0⟩
theorem new_is (room : Nat) (w : World) (hr : room ≤ 67108864) :
    Calls Try.prog 18 #[.int .i64 room] w fun e w' => ∃ db F, e = .returned (.tuple #[.pointer (some ⟨db, 0, none⟩), .int .i64 0]) ∧ DK w' w.heap.size db (emptyP room) 0 64 F ∧ Below w.heap.size w w' := by
  have hL : Calls Try.prog 13 #[.slice none 0 0, .int .i64 room] w fun e w' => ∃ db F, e = .returned (.tuple #[.pointer (some ⟨db, 0, none⟩), .int .i64 0]) ∧ DK w' w.heap.size db (emptyP room) 0 64 F ∧ Below w.heap.size w w' :=
    load_is none 0 0 (fun _ => ⟨#[]⟩) (fun _ => []) room 64 w (fun i hi => absurd hi (Nat.not_lt_zero _)) hr rfl (Nat.zero_le _) (Nat.le_refl _) (fun i hi => absurd hi (Nat.not_lt_zero _))
  clear hr
  go_enter Try.func18, Try.ntmps18
  go_wp2_with fail
  refine hL.mono ?_
  rintro e w1 ⟨db, F, rfl, hD, hb⟩
  clear hL
  go_wp2_with fail
  go_ret2
  exact ⟨db, F, rfl, hD, hb⟩

/-- A step of a script. -/
structure OpV where
  kind : Int
  on : Int
  n : Int
  name : ByteArray
  tt : ByteArray
  ba : Option Addr
  bc : Nat
  b : List Nat
  p0 : Int
  p1 : Int
  p2 : Int
  pa : Option Addr
  pn : Nat
  pc : Nat
def OpV.cells (o : OpV) : List Value := [.int .i64 o.kind, .int .i64 o.on, .int .i64 o.n, .string o.name, .string o.tt, .slice o.ba o.b.length o.bc, .int .i64 o.p0, .int .i64 o.p1, .int .i64 o.p2, .slice o.pa o.pn o.pc]
def OpV.v (o : OpV) : Value := .agg #[.int .i64 o.kind, .int .i64 o.on, .int .i64 o.n, .string o.name, .string o.tt, .slice o.ba o.b.length o.bc, .int .i64 o.p0, .int .i64 o.p1, .int .i64 o.p2, .slice o.pa o.pn o.pc]
def OpV.dp (o : OpV) : Dp := ⟨o.kind, o.name, o.tt, o.b, o.n⟩
/-- The step's bytes, as they lie in memory. -/
def OpV.ok (o : OpV) (w : World) : Prop := BL w o.ba o.b ∧ (o.ba = none → o.b.length = 0 ∧ o.bc = 0)

theorem num_is (e : Int) (w : World) : Calls Try.prog 15 #[.int .i64 e] w fun r w' => r = .returned (.int .i64 e) ∧ w' = w := num_any e w
set_option maxHeartbeats 6400000 in
theorem play_is {w : World} {B db : Nat} {p : DM} {n T : Nat} {F : Nat → Prop} (h : DK w B db p n T F) (hT : T ≤ 17179869184) (o : OpV) (hl : o.b.length ≤ 1099511627776) (ho : o.ok w) (hfr : ∀ ad, o.ba = some ad → 0 < o.b.length → ad.block < w.heap.size ∧ ¬ F ad.block) :
    Calls Try.prog 9 #[.pointer (some ⟨db, 0, none⟩), o.v] w fun e w' => e = .returned (.int .i64 ((stepM p n o.dp).2.2 : Nat)) ∧ ∃ F', DK w' B db (stepM p n o.dp).1 (stepM p n o.dp).2.1 (T + o.b.length + 2) F' ∧ Mv F F' w w' := by
  have HNUM : Hid (∀ (e : Int) W, Calls Try.prog 15 #[.int .i64 e] W fun r w' => r = .returned (.int .i64 e) ∧ w' = W) := num_is
  have bA : Below w.heap.size w (w.alloc (.cells #[.int .i64 o.kind, .int .i64 o.on, .int .i64 o.n, .string o.name, .string o.tt, .slice o.ba o.b.length o.bc, .int .i64 o.p0, .int .i64 o.p1, .int .i64 o.p2, .slice o.pa o.pn o.pc] 33)) := (Below.refl _ _).alloc (Nat.le_refl _) _
  have x0 : (w.alloc (.cells #[.int .i64 o.kind, .int .i64 o.on, .int .i64 o.n, .string o.name, .string o.tt, .slice o.ba o.b.length o.bc, .int .i64 o.p0, .int .i64 o.p1, .int .i64 o.p2, .slice o.pa o.pn o.pc] 33)).cell? ⟨w.heap.size, 0, none⟩ = some (.int .i64 o.kind) := World.cell?_alloc_at (w := w) _ _ _ 0 rfl
  have x2 : (w.alloc (.cells #[.int .i64 o.kind, .int .i64 o.on, .int .i64 o.n, .string o.name, .string o.tt, .slice o.ba o.b.length o.bc, .int .i64 o.p0, .int .i64 o.p1, .int .i64 o.p2, .slice o.pa o.pn o.pc] 33)).cell? ⟨w.heap.size, 2, none⟩ = some (.int .i64 o.n) := World.cell?_alloc_at (w := w) _ _ _ 2 rfl
  have x3 : (w.alloc (.cells #[.int .i64 o.kind, .int .i64 o.on, .int .i64 o.n, .string o.name, .string o.tt, .slice o.ba o.b.length o.bc, .int .i64 o.p0, .int .i64 o.p1, .int .i64 o.p2, .slice o.pa o.pn o.pc] 33)).cell? ⟨w.heap.size, 3, none⟩ = some (.string o.name) := World.cell?_alloc_at (w := w) _ _ _ 3 rfl
  have x4 : (w.alloc (.cells #[.int .i64 o.kind, .int .i64 o.on, .int .i64 o.n, .string o.name, .string o.tt, .slice o.ba o.b.length o.bc, .int .i64 o.p0, .int .i64 o.p1, .int .i64 o.p2, .slice o.pa o.pn o.pc] 33)).cell? ⟨w.heap.size, 4, none⟩ = some (.string o.tt) := World.cell?_alloc_at (w := w) _ _ _ 4 rfl
  have x5 : (w.alloc (.cells #[.int .i64 o.kind, .int .i64 o.on, .int .i64 o.n, .string o.name, .string o.tt, .slice o.ba o.b.length o.bc, .int .i64 o.p0, .int .i64 o.p1, .int .i64 o.p2, .slice o.pa o.pn o.pc] 33)).cell? ⟨w.heap.size, 5, none⟩ = some (.slice o.ba o.b.length o.bc) := World.cell?_alloc_at (w := w) _ _ _ 5 rfl
  have hA := h.on bA
  have hoA : BL (w.alloc (.cells #[.int .i64 o.kind, .int .i64 o.on, .int .i64 o.n, .string o.name, .string o.tt, .slice o.ba o.b.length o.bc, .int .i64 o.p0, .int .i64 o.p1, .int .i64 o.p2, .slice o.pa o.pn o.pc] 33)) o.ba o.b := Byt.on ho.1 bA
  obtain ⟨W, HW⟩ : ∃ W, Hid (w.alloc (.cells #[.int .i64 o.kind, .int .i64 o.on, .int .i64 o.n, .string o.name, .string o.tt, .slice o.ba o.b.length o.bc, .int .i64 o.p0, .int .i64 o.p1, .int .i64 o.p2, .slice o.pa o.pn o.pc] 33) = W) := ⟨_, rfl⟩
  rw [HW.out] at bA hA x0 x2 x3 x4 x5 hoA
  have hfrA : ∀ ad, o.ba = some ad → 0 < o.b.length → ad.block < W.heap.size ∧ ¬ F ad.block := fun ad e h0 => ⟨Nat.lt_of_lt_of_le (hfr ad e h0).1 bA.size, (hfr ad e h0).2⟩
  have hnil := ho.2
  unfold OpV.v
  by_cases h1 : o.kind = 1
  · have eS : stepM p n o.dp = ((appD p o.name o.b n).1, appN p n o.name o.b, (appD p o.name o.b n).2) := by
      unfold stepM
      show (if o.kind = 1 then _ else if o.kind = 2 then _ else if o.kind = 3 then _ else if o.kind = 4 then _ else if o.kind = 5 then _ else if o.kind = 6 then _ else _ : DM × Nat × Nat) = _
      rw [if_pos h1]
      all_goals rfl
    rw [eS]
    obtain ⟨E, hE⟩ : ∃ E : Nat, E = (((appD p o.name o.b n).1, appN p n o.name o.b, (appD p o.name o.b n).2) : DM × Nat × Nat).2.2 := ⟨_, rfl⟩
    have HC : Hid (Calls Try.prog 32 #[.pointer (some ⟨db, 0, none⟩), .string o.name, .slice o.ba o.b.length o.bc] W fun e w' => e = .returned (.int .i64 (E : Nat)) ∧ ∃ F', DK w' B db (((appD p o.name o.b n).1, appN p n o.name o.b, (appD p o.name o.b n).2) : DM × Nat × Nat).1 (((appD p o.name o.b n).1, appN p n o.name o.b, (appD p o.name o.b n).2) : DM × Nat × Nat).2.1 (T + o.b.length + 2) F' ∧ Mv F F' w w') := by
      refine (hA.app hT o.name o.ba o.bc o.b hl hoA hnil hfrA).mono fun e w' ⟨he, F', hD, hM⟩ => ⟨by rw [hE]; exact he, F', hD.mono (by omega), (Mv.of_below bA).trans hM⟩
    rw [← hE]
    obtain ⟨S, HS⟩ : ∃ S : World → Prop, Hid (∀ W', S W' ↔ ∃ F', DK W' B db (((appD p o.name o.b n).1, appN p n o.name o.b, (appD p o.name o.b n).2) : DM × Nat × Nat).1 (((appD p o.name o.b n).1, appN p n o.name o.b, (appD p o.name o.b n).2) : DM × Nat × Nat).2.1 (T + o.b.length + 2) F' ∧ Mv F F' w W') := ⟨_, fun _ => Iff.rfl⟩
    have HC2 : Hid (Calls Try.prog 32 #[.pointer (some ⟨db, 0, none⟩), .string o.name, .slice o.ba o.b.length o.bc] W fun e w' => e = .returned (.int .i64 (E : Nat)) ∧ S w') := HC.out.mono fun e w' ⟨he, hr⟩ => ⟨he, (HS.out w').2 hr⟩
    refine Calls.mono (?_ : Calls _ _ _ _ fun e w' => e = .returned (.int .i64 (E : Nat)) ∧ S w') (fun e w' ⟨he, hr⟩ => ⟨he, (HS.out w').1 hr⟩)
    clear h hA ho hoA hfr hfrA bA HC HS hE eS hnil hl
    rw [h1] at x0 HW ⊢
    go_enter Try.func9, Try.ntmps9
    go_upto_region 1 with fail
    rw [HW.out]
    go_wp2_with (first
      | (go_at_call 32; refine HC2.out.mono ?_; rintro e w2 ⟨rfl, hS2⟩)
      | (go_at_call 15; refine (HNUM.out _ _).mono ?_; rintro e w3 ⟨rfl, rfl⟩))
    go_ret
    exact ⟨rfl, hS2⟩
  by_cases h2 : o.kind = 2
  · have eS : stepM p n o.dp = ((cutD p o.name o.n).1, n, (cutD p o.name o.n).2) := by
      unfold stepM
      show (if o.kind = 1 then _ else if o.kind = 2 then _ else if o.kind = 3 then _ else if o.kind = 4 then _ else if o.kind = 5 then _ else if o.kind = 6 then _ else _ : DM × Nat × Nat) = _
      rw [if_neg h1, if_pos h2]
      all_goals rfl
    rw [eS]
    obtain ⟨E, hE⟩ : ∃ E : Nat, E = (((cutD p o.name o.n).1, n, (cutD p o.name o.n).2) : DM × Nat × Nat).2.2 := ⟨_, rfl⟩
    have HC : Hid (Calls Try.prog 33 #[.pointer (some ⟨db, 0, none⟩), .string o.name, .int .i64 o.n] W fun e w' => e = .returned (.int .i64 (E : Nat)) ∧ ∃ F', DK w' B db (((cutD p o.name o.n).1, n, (cutD p o.name o.n).2) : DM × Nat × Nat).1 (((cutD p o.name o.n).1, n, (cutD p o.name o.n).2) : DM × Nat × Nat).2.1 (T + o.b.length + 2) F' ∧ Mv F F' w w') := by
      refine (hA.cut (by omega) o.name o.n).mono fun e w' ⟨he, F', hD, hM⟩ => ⟨by rw [hE]; exact he, F', hD.mono (by omega), (Mv.of_below bA).trans hM⟩
    rw [← hE]
    obtain ⟨S, HS⟩ : ∃ S : World → Prop, Hid (∀ W', S W' ↔ ∃ F', DK W' B db (((cutD p o.name o.n).1, n, (cutD p o.name o.n).2) : DM × Nat × Nat).1 (((cutD p o.name o.n).1, n, (cutD p o.name o.n).2) : DM × Nat × Nat).2.1 (T + o.b.length + 2) F' ∧ Mv F F' w W') := ⟨_, fun _ => Iff.rfl⟩
    have HC2 : Hid (Calls Try.prog 33 #[.pointer (some ⟨db, 0, none⟩), .string o.name, .int .i64 o.n] W fun e w' => e = .returned (.int .i64 (E : Nat)) ∧ S w') := HC.out.mono fun e w' ⟨he, hr⟩ => ⟨he, (HS.out w').2 hr⟩
    refine Calls.mono (?_ : Calls _ _ _ _ fun e w' => e = .returned (.int .i64 (E : Nat)) ∧ S w') (fun e w' ⟨he, hr⟩ => ⟨he, (HS.out w').1 hr⟩)
    clear h hA ho hoA hfr hfrA bA HC HS hE eS hnil hl
    rw [h2] at x0 HW ⊢
    go_enter Try.func9, Try.ntmps9
    go_upto_region 1 with fail
    rw [HW.out]
    go_wp2_with (first
      | (go_at_call 33; refine HC2.out.mono ?_; rintro e w2 ⟨rfl, hS2⟩)
      | (go_at_call 15; refine (HNUM.out _ _).mono ?_; rintro e w3 ⟨rfl, rfl⟩))
    go_ret
    exact ⟨rfl, hS2⟩
  by_cases h3 : o.kind = 3
  · have eS : stepM p n o.dp = ((syncM p o.name).1, n, (syncM p o.name).2) := by
      unfold stepM
      show (if o.kind = 1 then _ else if o.kind = 2 then _ else if o.kind = 3 then _ else if o.kind = 4 then _ else if o.kind = 5 then _ else if o.kind = 6 then _ else _ : DM × Nat × Nat) = _
      rw [if_neg h1, if_neg h2, if_pos h3]
      all_goals rfl
    rw [eS]
    obtain ⟨E, hE⟩ : ∃ E : Nat, E = (((syncM p o.name).1, n, (syncM p o.name).2) : DM × Nat × Nat).2.2 := ⟨_, rfl⟩
    have HC : Hid (Calls Try.prog 34 #[.pointer (some ⟨db, 0, none⟩), .string o.name] W fun e w' => e = .returned (.int .i64 (E : Nat)) ∧ ∃ F', DK w' B db (((syncM p o.name).1, n, (syncM p o.name).2) : DM × Nat × Nat).1 (((syncM p o.name).1, n, (syncM p o.name).2) : DM × Nat × Nat).2.1 (T + o.b.length + 2) F' ∧ Mv F F' w w') := by
      refine (hA.sync (by omega) o.name).mono fun e w' ⟨he, F', hD, hM⟩ => ⟨by rw [hE]; exact he, F', hD.mono (by omega), (Mv.of_below bA).trans hM⟩
    rw [← hE]
    obtain ⟨S, HS⟩ : ∃ S : World → Prop, Hid (∀ W', S W' ↔ ∃ F', DK W' B db (((syncM p o.name).1, n, (syncM p o.name).2) : DM × Nat × Nat).1 (((syncM p o.name).1, n, (syncM p o.name).2) : DM × Nat × Nat).2.1 (T + o.b.length + 2) F' ∧ Mv F F' w W') := ⟨_, fun _ => Iff.rfl⟩
    have HC2 : Hid (Calls Try.prog 34 #[.pointer (some ⟨db, 0, none⟩), .string o.name] W fun e w' => e = .returned (.int .i64 (E : Nat)) ∧ S w') := HC.out.mono fun e w' ⟨he, hr⟩ => ⟨he, (HS.out w').2 hr⟩
    refine Calls.mono (?_ : Calls _ _ _ _ fun e w' => e = .returned (.int .i64 (E : Nat)) ∧ S w') (fun e w' ⟨he, hr⟩ => ⟨he, (HS.out w').1 hr⟩)
    clear h hA ho hoA hfr hfrA bA HC HS hE eS hnil hl
    rw [h3] at x0 HW ⊢
    go_enter Try.func9, Try.ntmps9
    go_upto_region 1 with fail
    rw [HW.out]
    go_wp2_with (first
      | (go_at_call 34; refine HC2.out.mono ?_; rintro e w2 ⟨rfl, hS2⟩)
      | (go_at_call 15; refine (HNUM.out _ _).mono ?_; rintro e w3 ⟨rfl, rfl⟩))
    go_ret
    exact ⟨rfl, hS2⟩
  by_cases h4 : o.kind = 4
  · have eS : stepM p n o.dp = ((syncN p).1, n, (syncN p).2) := by
      unfold stepM
      show (if o.kind = 1 then _ else if o.kind = 2 then _ else if o.kind = 3 then _ else if o.kind = 4 then _ else if o.kind = 5 then _ else if o.kind = 6 then _ else _ : DM × Nat × Nat) = _
      rw [if_neg h1, if_neg h2, if_neg h3, if_pos h4]
      all_goals rfl
    rw [eS]
    obtain ⟨E, hE⟩ : ∃ E : Nat, E = (((syncN p).1, n, (syncN p).2) : DM × Nat × Nat).2.2 := ⟨_, rfl⟩
    have HC : Hid (Calls Try.prog 35 #[.pointer (some ⟨db, 0, none⟩)] W fun e w' => e = .returned (.int .i64 (E : Nat)) ∧ ∃ F', DK w' B db (((syncN p).1, n, (syncN p).2) : DM × Nat × Nat).1 (((syncN p).1, n, (syncN p).2) : DM × Nat × Nat).2.1 (T + o.b.length + 2) F' ∧ Mv F F' w w') := by
      refine (hA.names (by omega)).mono fun e w' ⟨he, F', hD, hM⟩ => ⟨by rw [hE]; exact he, F', hD.mono (by omega), (Mv.of_below bA).trans hM⟩
    rw [← hE]
    obtain ⟨S, HS⟩ : ∃ S : World → Prop, Hid (∀ W', S W' ↔ ∃ F', DK W' B db (((syncN p).1, n, (syncN p).2) : DM × Nat × Nat).1 (((syncN p).1, n, (syncN p).2) : DM × Nat × Nat).2.1 (T + o.b.length + 2) F' ∧ Mv F F' w W') := ⟨_, fun _ => Iff.rfl⟩
    have HC2 : Hid (Calls Try.prog 35 #[.pointer (some ⟨db, 0, none⟩)] W fun e w' => e = .returned (.int .i64 (E : Nat)) ∧ S w') := HC.out.mono fun e w' ⟨he, hr⟩ => ⟨he, (HS.out w').2 hr⟩
    refine Calls.mono (?_ : Calls _ _ _ _ fun e w' => e = .returned (.int .i64 (E : Nat)) ∧ S w') (fun e w' ⟨he, hr⟩ => ⟨he, (HS.out w').1 hr⟩)
    clear h hA ho hoA hfr hfrA bA HC HS hE eS hnil hl
    rw [h4] at x0 HW ⊢
    go_enter Try.func9, Try.ntmps9
    go_upto_region 1 with fail
    rw [HW.out]
    go_wp2_with (first
      | (go_at_call 35; refine HC2.out.mono ?_; rintro e w2 ⟨rfl, hS2⟩)
      | (go_at_call 15; refine (HNUM.out _ _).mono ?_; rintro e w3 ⟨rfl, rfl⟩))
    go_ret
    exact ⟨rfl, hS2⟩
  by_cases h5 : o.kind = 5
  · have eS : stepM p n o.dp = ((renameD p o.name o.tt).1, n, (renameD p o.name o.tt).2) := by
      unfold stepM
      show (if o.kind = 1 then _ else if o.kind = 2 then _ else if o.kind = 3 then _ else if o.kind = 4 then _ else if o.kind = 5 then _ else if o.kind = 6 then _ else _ : DM × Nat × Nat) = _
      rw [if_neg h1, if_neg h2, if_neg h3, if_neg h4, if_pos h5]
      all_goals rfl
    rw [eS]
    obtain ⟨E, hE⟩ : ∃ E : Nat, E = (((renameD p o.name o.tt).1, n, (renameD p o.name o.tt).2) : DM × Nat × Nat).2.2 := ⟨_, rfl⟩
    have HC : Hid (Calls Try.prog 36 #[.pointer (some ⟨db, 0, none⟩), .string o.name, .string o.tt] W fun e w' => e = .returned (.int .i64 (E : Nat)) ∧ ∃ F', DK w' B db (((renameD p o.name o.tt).1, n, (renameD p o.name o.tt).2) : DM × Nat × Nat).1 (((renameD p o.name o.tt).1, n, (renameD p o.name o.tt).2) : DM × Nat × Nat).2.1 (T + o.b.length + 2) F' ∧ Mv F F' w w') := by
      refine (hA.ren (by omega) o.name o.tt).mono fun e w' ⟨he, F', hD, hM⟩ => ⟨by rw [hE]; exact he, F', hD.mono (by omega), (Mv.of_below bA).trans hM⟩
    rw [← hE]
    obtain ⟨S, HS⟩ : ∃ S : World → Prop, Hid (∀ W', S W' ↔ ∃ F', DK W' B db (((renameD p o.name o.tt).1, n, (renameD p o.name o.tt).2) : DM × Nat × Nat).1 (((renameD p o.name o.tt).1, n, (renameD p o.name o.tt).2) : DM × Nat × Nat).2.1 (T + o.b.length + 2) F' ∧ Mv F F' w W') := ⟨_, fun _ => Iff.rfl⟩
    have HC2 : Hid (Calls Try.prog 36 #[.pointer (some ⟨db, 0, none⟩), .string o.name, .string o.tt] W fun e w' => e = .returned (.int .i64 (E : Nat)) ∧ S w') := HC.out.mono fun e w' ⟨he, hr⟩ => ⟨he, (HS.out w').2 hr⟩
    refine Calls.mono (?_ : Calls _ _ _ _ fun e w' => e = .returned (.int .i64 (E : Nat)) ∧ S w') (fun e w' ⟨he, hr⟩ => ⟨he, (HS.out w').1 hr⟩)
    clear h hA ho hoA hfr hfrA bA HC HS hE eS hnil hl
    rw [h5] at x0 HW ⊢
    go_enter Try.func9, Try.ntmps9
    go_upto_region 1 with fail
    rw [HW.out]
    go_wp2_with (first
      | (go_at_call 36; refine HC2.out.mono ?_; rintro e w2 ⟨rfl, hS2⟩)
      | (go_at_call 15; refine (HNUM.out _ _).mono ?_; rintro e w3 ⟨rfl, rfl⟩))
    go_ret
    exact ⟨rfl, hS2⟩
  by_cases h6 : o.kind = 6
  · have eS : stepM p n o.dp = ((removeD p o.name).1, n, (removeD p o.name).2) := by
      unfold stepM
      show (if o.kind = 1 then _ else if o.kind = 2 then _ else if o.kind = 3 then _ else if o.kind = 4 then _ else if o.kind = 5 then _ else if o.kind = 6 then _ else _ : DM × Nat × Nat) = _
      rw [if_neg h1, if_neg h2, if_neg h3, if_neg h4, if_neg h5, if_pos h6]
      all_goals rfl
    rw [eS]
    obtain ⟨E, hE⟩ : ∃ E : Nat, E = (((removeD p o.name).1, n, (removeD p o.name).2) : DM × Nat × Nat).2.2 := ⟨_, rfl⟩
    have HC : Hid (Calls Try.prog 37 #[.pointer (some ⟨db, 0, none⟩), .string o.name] W fun e w' => e = .returned (.int .i64 (E : Nat)) ∧ ∃ F', DK w' B db (((removeD p o.name).1, n, (removeD p o.name).2) : DM × Nat × Nat).1 (((removeD p o.name).1, n, (removeD p o.name).2) : DM × Nat × Nat).2.1 (T + o.b.length + 2) F' ∧ Mv F F' w w') := by
      refine (hA.rem (by omega) o.name).mono fun e w' ⟨he, F', hD, hM⟩ => ⟨by rw [hE]; exact he, F', hD.mono (by omega), (Mv.of_below bA).trans hM⟩
    rw [← hE]
    obtain ⟨S, HS⟩ : ∃ S : World → Prop, Hid (∀ W', S W' ↔ ∃ F', DK W' B db (((removeD p o.name).1, n, (removeD p o.name).2) : DM × Nat × Nat).1 (((removeD p o.name).1, n, (removeD p o.name).2) : DM × Nat × Nat).2.1 (T + o.b.length + 2) F' ∧ Mv F F' w W') := ⟨_, fun _ => Iff.rfl⟩
    have HC2 : Hid (Calls Try.prog 37 #[.pointer (some ⟨db, 0, none⟩), .string o.name] W fun e w' => e = .returned (.int .i64 (E : Nat)) ∧ S w') := HC.out.mono fun e w' ⟨he, hr⟩ => ⟨he, (HS.out w').2 hr⟩
    refine Calls.mono (?_ : Calls _ _ _ _ fun e w' => e = .returned (.int .i64 (E : Nat)) ∧ S w') (fun e w' ⟨he, hr⟩ => ⟨he, (HS.out w').1 hr⟩)
    clear h hA ho hoA hfr hfrA bA HC HS hE eS hnil hl
    rw [h6] at x0 HW ⊢
    go_enter Try.func9, Try.ntmps9
    go_upto_region 1 with fail
    rw [HW.out]
    go_wp2_with (first
      | (go_at_call 37; refine HC2.out.mono ?_; rintro e w2 ⟨rfl, hS2⟩)
      | (go_at_call 15; refine (HNUM.out _ _).mono ?_; rintro e w3 ⟨rfl, rfl⟩))
    go_ret
    exact ⟨rfl, hS2⟩
  have eS : stepM p n o.dp = (p, n, 0) := by
    unfold stepM
    show (if o.kind = 1 then _ else if o.kind = 2 then _ else if o.kind = 3 then _ else if o.kind = 4 then _ else if o.kind = 5 then _ else if o.kind = 6 then _ else _ : DM × Nat × Nat) = _
    rw [if_neg h1, if_neg h2, if_neg h3, if_neg h4, if_neg h5, if_neg h6]
  rw [eS]
  have k1 : (o.kind == 1) = false := beq_eq_false_iff_ne.2 h1
  have k2 : (o.kind == 2) = false := beq_eq_false_iff_ne.2 h2
  have k3 : (o.kind == 3) = false := beq_eq_false_iff_ne.2 h3
  have k4 : (o.kind == 4) = false := beq_eq_false_iff_ne.2 h4
  have k5 : (o.kind == 5) = false := beq_eq_false_iff_ne.2 h5
  have k6 : (o.kind == 6) = false := beq_eq_false_iff_ne.2 h6
  have HR : Hid (∃ F', DK W B db p n (T + o.b.length + 2) F' ∧ Mv F F' w W) := ⟨F, hA.mono (by omega), Mv.of_below bA⟩
  show Calls _ _ _ _ fun e w' => e = .returned (.int .i64 0) ∧ ∃ F', DK w' B db p n (T + o.b.length + 2) F' ∧ Mv F F' w w'
  clear h hA ho hoA hfr hfrA bA eS hnil hl h1 h2 h3 h4 h5 h6
  generalize o.kind = KK at *
  go_enter Try.func9, Try.ntmps9
  go_upto_region 1 with fail
  rw [HW.out]
  go_wp2_with fail
  go_ret
  exact ⟨rfl, HR.out⟩
end Go.Proofs.Ytbnlgohaaadgeaa

/- The law's own helpers: few. -/
namespace Go.Proofs.Ytbnlgohaaadgeaa
open Go.RowKit Go.Maps Go.Sort
set_option maxRecDepth 100000
set_option maxRecDepth 100000

/-- Steps in memory. -/
def OpsIn (w : World) (a : Option Addr) (ops : List OpV) : Prop := ∀ (i : Nat) (o : OpV), ops[i]? = some o → ∃ b off, a = some ⟨b, off, none⟩ ∧ ∀ (j : Nat) (v : Value), o.cells[j]? = some v → w.cell? ⟨b, off + i * 10 + j, none⟩ = some v
theorem OpsIn.on {w w' : World} {a : Option Addr} {ops : List OpV} (h : OpsIn w a ops) (hb : Below w.heap.size w w') : OpsIn w' a ops := fun i o ho => by
  obtain ⟨b, off, e, hc⟩ := h i o ho
  exact ⟨b, off, e, fun j v hj => cel_on hb (hc j v hj)⟩
def opsCells : List OpV → List Value
  | [] => []
  | o :: os => o.cells ++ opsCells os
theorem opsCells_snoc (o : OpV) : ∀ os, opsCells (os ++ [o]) = opsCells os ++ o.cells
  | [] => by simp [opsCells]
  | d :: os => by simp only [List.cons_append, opsCells, opsCells_snoc o os, List.append_assoc]
theorem opsCells_len : ∀ os, (opsCells os).length = os.length * 10
  | [] => rfl
  | d :: os => by simp only [opsCells, List.length_append, opsCells_len os, List.length_cons]; show 10 + _ = _; omega
theorem opsCells_at : ∀ (os : List OpV) (i : Nat) (o : OpV) (j : Nat) (v : Value), os[i]? = some o → o.cells[j]? = some v → (opsCells os)[i * 10 + j]? = some v
  | [], i, o, j, v, h, _ => by simp at h
  | d :: os, 0, o, j, v, h, hj => by
    have : d = o := by simpa using h
    subst this
    have hl : j < d.cells.length := (List.getElem?_eq_some_iff.1 hj).1
    show (d.cells ++ opsCells os)[0 * 10 + j]? = some v
    rw [Nat.zero_mul, Nat.zero_add, List.getElem?_append_left hl]
    exact hj
  | d :: os, i + 1, o, j, v, h, hj => by
    have h' : os[i]? = some o := by simpa using h
    show (d.cells ++ opsCells os)[(i + 1) * 10 + j]? = some v
    have hl : d.cells.length = 10 := rfl
    rw [List.getElem?_append_right (by omega), hl, show (i + 1) * 10 + j - 10 = i * 10 + j by omega]
    exact opsCells_at os i o j v h' hj
theorem infoOP : (Try.prog.info? 33).map (fun i => (i.zero, i.size, i.bytes)) = some (some (.agg #[.int .i64 0, .int .i64 0, .int .i64 0, .string ⟨#[]⟩, .string ⟨#[]⟩, .slice none 0 0, .int .i64 0, .int .i64 0, .int .i64 0, .slice none 0 0]), 10, 128) := by kernel_rfl
theorem app_op {w : World} {K n : Nat} {v : Value} {xs : List Value} (h : w.ownsRow K 33 10 v n xs) (o : OpV) (hn : n ≤ 1000000) (hK : K ≤ w.heap.size) :
    ∃ a c w', (Builtin.append_ #[22, 22] 22 #[v, .slice (some ⟨w.heap.size, 0, none⟩) 1 1]).run Try.prog (w.alloc (.cells #[.int .i64 o.kind, .int .i64 o.on, .int .i64 o.n, .string o.name, .string o.tt, .slice o.ba o.b.length o.bc, .int .i64 o.p0, .int .i64 o.p1, .int .i64 o.p2, .slice o.pa o.pn o.pc] 33)) = .ok (.slice a (n + 1) c) w' ∧ w'.ownsRow K 33 10 (.slice a (n + 1) c) (n + 1) (xs ++ o.cells) ∧ w.grownBy w' v.ownBlock := by
  obtain ⟨i0, hi, hh⟩ := Option.map_eq_some_iff.1 infoOP
  simp only [Prod.mk.injEq] at hh
  obtain ⟨hz0, hz1, hz2⟩ := hh
  have hml : maxLen = 9223372036854775807 := rfl
  have hnews : ∀ j u, o.cells[j]? = some u → (w.alloc (.cells #[.int .i64 o.kind, .int .i64 o.on, .int .i64 o.n, .string o.name, .string o.tt, .slice o.ba o.b.length o.bc, .int .i64 o.p0, .int .i64 o.p1, .int .i64 o.p2, .slice o.pa o.pn o.pc] 33)).cell? ((⟨w.heap.size, 0, none⟩ : Addr).add j) = some u := fun j u hj => by
    rw [show (⟨w.heap.size, 0, none⟩ : Addr).add j = ⟨w.heap.size, j, none⟩ by simp only [Addr.add, Nat.zero_add]; split <;> simp_all]
    rw [World.cell?_alloc_at (w := w) _ _ _ j rfl, ← hj]
    show (o.cells.toArray)[j]? = o.cells[j]?
    simp
  obtain ⟨v', w', h1, h2, h3, _, h5⟩ := run_append_own_at (P := Try.prog) (w.alloc (.cells #[.int .i64 o.kind, .int .i64 o.on, .int .i64 o.n, .string o.name, .string o.tt, .slice o.ba o.b.length o.bc, .int .i64 o.p0, .int .i64 o.p1, .int .i64 o.p2, .slice o.pa o.pn o.pc] 33)) K 22 22 33 i0 _ 10 128 Try.underlying22 hi hz0 hz1 hz2 rfl (by decide) v n xs (h.alloc _) ⟨w.heap.size, 0, none⟩ 1 1 o.cells rfl hnews (fun u hu => by
    unfold OpV.cells at hu
    simp only [List.mem_cons, List.not_mem_nil, or_false] at hu
    rcases hu with e | e | e | e | e | e | e | e | e | e <;> (rw [e]; rfl)) (by omega) (by omega) (by simp; omega)
  obtain ⟨a, c, rfl⟩ : ∃ a c, v' = .slice a (n + 1) c := by
    rcases h2.2 with ⟨_, h0⟩ | ⟨g, c', cur, e, _⟩
    · omega
    · exact ⟨_, c', e⟩
  have hsz : (w.alloc (.cells #[.int .i64 o.kind, .int .i64 o.on, .int .i64 o.n, .string o.name, .string o.tt, .slice o.ba o.b.length o.bc, .int .i64 o.p0, .int .i64 o.p1, .int .i64 o.p2, .slice o.pa o.pn o.pc] 33)).heap.size = w.heap.size + 1 := by simp
  exact ⟨a, c, w', h1, h2, ⟨h3.os, h3.tape, h3.output, by have := h3.size; omega, fun b hb hne => (h3.block b (by omega) hne).trans (Below.heap_alloc _ _ _ hb)⟩⟩
theorem grown_own {w0 w w' : World} {e : TypeId} {s n : Nat} {v : Value} {xs : List Value} (h0 : Below w0.heap.size w0 w) (h : w.ownsRow w0.heap.size e s v n xs) (hg : w.grownBy w' v.ownBlock) : Below w0.heap.size w0 w' :=
  h0.grown hg h0.size (fun j hj => own_ge h j hj)

/-- What few keeps of a step. -/
def cutO (o : OpV) : OpV := { o with b := o.b.take 4096 }
def fewO (o : OpV) : Bool := decide (1 ≤ o.kind) && decide (o.kind ≤ 6)
def fewL (l : List OpV) : List OpV := ((l.take 200).filter fewO).map cutO
theorem fewL_step {l : List OpV} {i : Nat} {o : OpV} (h : l[i]? = some o) : ((l.take (i + 1)).filter fewO).map cutO = ((l.take i).filter fewO).map cutO ++ (if fewO o then [cutO o] else []) := by
  have e : l.take (i + 1) = l.take i ++ [o] := by
    rw [List.take_add_one, h]; rfl
  rw [e, List.filter_append, List.map_append]
  congr 1
  cases hf : fewO o <;> simp [hf]

set_option maxHeartbeats 6400000 in
theorem few_is (a : Option Addr) (c : Nat) (l : List OpV) (w : World) (h : OpsIn w a l) (hok : ∀ o ∈ l, o.b.length ≤ o.bc) :
    Calls Try.prog 10 #[.slice a l.length c] w fun e w' => ∃ v, e = .returned v ∧ w'.ownsRow w.heap.size 33 10 v (fewL l).length (opsCells (fewL l)) ∧ Below w.heap.size w w' := by
  have HI : Hid (OpsIn w a l) := h
  have HO : Hid (∀ o ∈ l, o.b.length ≤ o.bc) := hok
  obtain ⟨N, hN⟩ : ∃ N, N = min l.length 200 := ⟨_, rfl⟩
  have HF : Hid (fewL l = ((l.take N).filter fewO).map cutO) := by
    unfold fewL
    show _ = _
    congr 2
    rw [hN]
    by_cases e : l.length ≤ 200
    · rw [Nat.min_eq_left e, List.take_length, List.take_of_length_le e]
    · rw [Nat.min_eq_right (by omega)]
  obtain ⟨R, HR⟩ : ∃ R : List OpV, Hid (fewL l = R) := ⟨_, rfl⟩
  rw [HR.out]
  rw [HR.out] at HF
  clear h hok
  obtain ⟨L, hL⟩ : ∃ L, L = l.length := ⟨_, rfl⟩
  rw [← hL]
  rw [← hL] at hN
  have HL : Hid (L = l.length) := hL
  clear hL
  go_enter Try.func10, Try.ntmps10
  go_wp2_with fail
  go_loopg [3, 4] N (fun q s3 s4 wx => ∃ (i : Nat) (v : Value), i ≤ N ∧ q = N - i ∧ s4 = .int .i64 i ∧ s3 = v ∧ wx.ownsRow w.heap.size 33 10 v (((l.take i).filter fewO).map cutO).length (opsCells (((l.take i).filter fewO).map cutO)) ∧ Below w.heap.size w wx)
  case atStart => exact ⟨0, _, Nat.zero_le _, rfl, rfl, rfl, ⟨rfl, .inl ⟨rfl, rfl⟩⟩, Below.refl _ _⟩
  case round =>
    obtain ⟨i, v, hi, rfl, rfl, rfl, hown, hb⟩ := hrel
    by_cases hlt : i < N
    · have z1 : (i : Int) < (L : Int) := by omega
      have z2 : (i : Int) < 200 := by omega
      obtain ⟨o, ho⟩ : ∃ o, l[i]? = some o := ⟨_, List.getElem?_eq_getElem (by have := HL.out; omega)⟩
      obtain ⟨b, off, rfl, hc⟩ := HI.out.on hb i o ho
      have HOL : Hid (o.b.length ≤ o.bc) := HO.out o (List.mem_of_getElem? ho)
      have q0 : wr.cell? ⟨b, off + i * 10, none⟩ = some (.int .i64 o.kind) := hc 0 _ rfl
      have q1 := hc 1 _ rfl
      have q2 := hc 2 _ rfl
      have q3 := hc 3 _ rfl
      have q4 := hc 4 _ rfl
      have q5 := hc 5 _ rfl
      have q6 := hc 6 _ rfl
      have q7 := hc 7 _ rfl
      have q8 := hc 8 _ rfl
      have q9 := hc 9 _ rfl
      have HOWN : Hid _ := hown
      have HB : Hid _ := hb
      clear hc hown hb
      have bq : Below wr.heap.size wr (wr.alloc (.cells #[.int .i64 o.kind, .int .i64 o.on, .int .i64 o.n, .string o.name, .string o.tt, .slice o.ba o.b.length o.bc, .int .i64 o.p0, .int .i64 o.p1, .int .i64 o.p2, .slice o.pa o.pn o.pc] 33)) := (Below.refl _ _).alloc (Nat.le_refl _) _
      have rq : (wr.alloc (.cells #[.int .i64 o.kind, .int .i64 o.on, .int .i64 o.n, .string o.name, .string o.tt, .slice o.ba o.b.length o.bc, .int .i64 o.p0, .int .i64 o.p1, .int .i64 o.p2, .slice o.pa o.pn o.pc] 33)).rowIs wr.heap.size 33 10 (fun j => (o.cells[j]?).getD undef) := World.rowIs_alloc wr #[.int .i64 o.kind, .int .i64 o.on, .int .i64 o.n, .string o.name, .string o.tt, .slice o.ba o.b.length o.bc, .int .i64 o.p0, .int .i64 o.p1, .int .i64 o.p2, .slice o.pa o.pn o.pc] 33 (fun j => (o.cells[j]?).getD undef) (fun j hj => by
        show (o.cells.toArray)[j]? = some ((o.cells[j]?).getD undef)
        have hj' : j < o.cells.length := hj
        rw [List.getElem?_toArray, List.getElem?_eq_getElem hj']
        rfl)
      go_upto_region 6 with fail
      clear q0 q1 q2 q3 q4 q5 q6 q7 q8 q9
      obtain ⟨g, hg⟩ : ∃ g, wr.heap.size = g := ⟨_, rfl⟩
      rw [hg] at rq
      generalize wr.alloc (.cells #[.int .i64 o.kind, .int .i64 o.on, .int .i64 o.n, .string o.name, .string o.tt, .slice o.ba o.b.length o.bc, .int .i64 o.p0, .int .i64 o.p1, .int .i64 o.p2, .slice o.pa o.pn o.pc] 33) = W1 at *
      rw [hg]
      have HG : Hid (wr.heap.size = g) := hg
      clear hg
      have x0 : W1.cell? ⟨g, 0, none⟩ = some (.int .i64 o.kind) := rq.cell (i := 0) (by decide)
      have x1 : W1.cell? ⟨g, 1, none⟩ = some (.int .i64 o.on) := rq.cell (i := 1) (by decide)
      have x2 : W1.cell? ⟨g, 2, none⟩ = some (.int .i64 o.n) := rq.cell (i := 2) (by decide)
      have x3 : W1.cell? ⟨g, 3, none⟩ = some (.string o.name) := rq.cell (i := 3) (by decide)
      have x4 : W1.cell? ⟨g, 4, none⟩ = some (.string o.tt) := rq.cell (i := 4) (by decide)
      have x5 : W1.cell? ⟨g, 5, none⟩ = some (.slice o.ba o.b.length o.bc) := rq.cell (i := 5) (by decide)
      have x6 : W1.cell? ⟨g, 6, none⟩ = some (.int .i64 o.p0) := rq.cell (i := 6) (by decide)
      have x7 : W1.cell? ⟨g, 7, none⟩ = some (.int .i64 o.p1) := rq.cell (i := 7) (by decide)
      have x8 : W1.cell? ⟨g, 8, none⟩ = some (.int .i64 o.p2) := rq.cell (i := 8) (by decide)
      have x9 : W1.cell? ⟨g, 9, none⟩ = some (.slice o.pa o.pn o.pc) := rq.cell (i := 9) (by decide)
      have hwi : IntKind.i64.wrap ((i : Int) + 1) = (i : Int) + 1 := by rw [IntKind.wrap_i64]; omega
      have HSTEP := fewL_step ho
      have HBW : Hid (Below w.heap.size w W1) := HB.out.trans (bq.mono HB.out.size)
      have HOW1 : Hid (W1.ownsRow w.heap.size 33 10 u3 (((l.take i).filter fewO).map cutO).length (opsCells (((l.take i).filter fewO).map cutO))) := own_on HOWN.out bq
      have hcnt : (((l.take i).filter fewO).map cutO).length ≤ 200 := by
        rw [List.length_map]
        exact Nat.le_trans (List.length_filter_le _ _) (by rw [List.length_take]; omega)
      by_cases hk : 1 ≤ o.kind ∧ o.kind ≤ 6
      · have hfe : fewO o = true := by unfold fewO; rw [decide_eq_true hk.1, decide_eq_true hk.2]; rfl
        rw [hfe, if_pos rfl] at HSTEP
        have n1 : ¬ o.kind < 1 := by omega
        have n2 : ¬ (6 : Int) < o.kind := by omega
        by_cases hlong : 4096 < o.b.length
        · have hl1 : (4096 : Int) < ((o.b.length : Nat) : Int) := by omega
          have hl2 : (4096 : Int) ≤ ((o.bc : Nat) : Int) := by have := HOL.out; omega
          have f5 := rq.frozen 5
          have r2 := rq.set 5 (.slice o.ba 4096 o.bc)
          have y0 : (W1.setCell ⟨g, 5, none⟩ (.slice o.ba 4096 o.bc)).cell? ⟨g, 0, none⟩ = some (.int .i64 o.kind) := r2.cell (i := 0) (by decide)
          have y1 : (W1.setCell ⟨g, 5, none⟩ (.slice o.ba 4096 o.bc)).cell? ⟨g, 1, none⟩ = some (.int .i64 o.on) := r2.cell (i := 1) (by decide)
          have y2 : (W1.setCell ⟨g, 5, none⟩ (.slice o.ba 4096 o.bc)).cell? ⟨g, 2, none⟩ = some (.int .i64 o.n) := r2.cell (i := 2) (by decide)
          have y3 : (W1.setCell ⟨g, 5, none⟩ (.slice o.ba 4096 o.bc)).cell? ⟨g, 3, none⟩ = some (.string o.name) := r2.cell (i := 3) (by decide)
          have y4 : (W1.setCell ⟨g, 5, none⟩ (.slice o.ba 4096 o.bc)).cell? ⟨g, 4, none⟩ = some (.string o.tt) := r2.cell (i := 4) (by decide)
          have y5 : (W1.setCell ⟨g, 5, none⟩ (.slice o.ba 4096 o.bc)).cell? ⟨g, 5, none⟩ = some (.slice o.ba 4096 o.bc) := r2.cell (i := 5) (by decide)
          have y6 : (W1.setCell ⟨g, 5, none⟩ (.slice o.ba 4096 o.bc)).cell? ⟨g, 6, none⟩ = some (.int .i64 o.p0) := r2.cell (i := 6) (by decide)
          have y7 : (W1.setCell ⟨g, 5, none⟩ (.slice o.ba 4096 o.bc)).cell? ⟨g, 7, none⟩ = some (.int .i64 o.p1) := r2.cell (i := 7) (by decide)
          have y8 : (W1.setCell ⟨g, 5, none⟩ (.slice o.ba 4096 o.bc)).cell? ⟨g, 8, none⟩ = some (.int .i64 o.p2) := r2.cell (i := 8) (by decide)
          have y9 : (W1.setCell ⟨g, 5, none⟩ (.slice o.ba 4096 o.bc)).cell? ⟨g, 9, none⟩ = some (.slice o.pa o.pn o.pc) := r2.cell (i := 9) (by decide)
          have e5 : (cutO o).b.length = 4096 := by show (o.b.take 4096).length = _; rw [List.length_take]; omega
          have hne : u3.ownBlock ≠ some g := fun e => by
            have := (rows_lt HOWN.out g e).2
            have := HG.out
            omega
          have own2 : (W1.setCell ⟨g, 5, none⟩ (.slice o.ba 4096 o.bc)).ownsRow w.heap.size 33 10 u3 (((l.take i).filter fewO).map cutO).length (opsCells (((l.take i).filter fewO).map cutO)) := rows_keep HOW1.out (fun k e => Below.heap_setCell _ _ _ _ (fun e2 => hne (by have e2 : k = g := e2; rw [← e2]; exact e)))
          have hbz : w.heap.size ≤ g := by have := HB.out.size; have := HG.out; omega
          have hb2 : Below w.heap.size w (W1.setCell ⟨g, 5, none⟩ (.slice o.ba 4096 o.bc)) := HBW.out.setCell hbz _
          obtain ⟨W2, HW2⟩ : ∃ W2, Hid (W1.setCell ⟨g, 5, none⟩ (.slice o.ba 4096 o.bc) = W2) := ⟨_, rfl⟩
          rw [HW2.out] at own2 hb2 y0 y1 y2 y3 y4 y5 y6 y7 y8 y9
          obtain ⟨va, vc, w3, hrun, hown3, hg3⟩ := app_op own2 (cutO o) (by omega) hb2.size
          have hrun' : (Builtin.append_ #[22, 22] 22 #[u3, .slice (some ⟨W2.heap.size, 0, none⟩) 1 1]).run Try.prog (W2.alloc (.cells #[.int .i64 o.kind, .int .i64 o.on, .int .i64 o.n, .string o.name, .string o.tt, .slice o.ba 4096 o.bc, .int .i64 o.p0, .int .i64 o.p1, .int .i64 o.p2, .slice o.pa o.pn o.pc] 33)) = .ok (.slice va ((((l.take i).filter fewO).map cutO).length + 1) vc) w3 := by
            rw [← e5]; exact hrun
          have HRUN : Hid _ := hrun'
          have HFIN : Hid (w3.ownsRow w.heap.size 33 10 (.slice va ((((l.take i).filter fewO).map cutO).length + 1) vc) (((l.take (i + 1)).filter fewO).map cutO).length (opsCells (((l.take (i + 1)).filter fewO).map cutO)) ∧ Below w.heap.size w w3) := by
            rw [HSTEP, opsCells_snoc, List.length_append]
            exact ⟨hown3, grown_own hb2 own2 hg3⟩
          clear rq r2 bq HOWN HOW1 HBW own2 hb2 hrun hrun' hown3 hg3 HSTEP hne ho e5
          generalize (((l.take i).filter fewO).map cutO).length = CN at *
          have HY : Hid (W2.cell? ⟨g, 0, none⟩ = some (.int .i64 o.kind) ∧ W2.cell? ⟨g, 1, none⟩ = some (.int .i64 o.on) ∧ W2.cell? ⟨g, 2, none⟩ = some (.int .i64 o.n) ∧ W2.cell? ⟨g, 3, none⟩ = some (.string o.name) ∧ W2.cell? ⟨g, 4, none⟩ = some (.string o.tt) ∧ W2.cell? ⟨g, 5, none⟩ = some (.slice o.ba 4096 o.bc) ∧ W2.cell? ⟨g, 6, none⟩ = some (.int .i64 o.p0) ∧ W2.cell? ⟨g, 7, none⟩ = some (.int .i64 o.p1) ∧ W2.cell? ⟨g, 8, none⟩ = some (.int .i64 o.p2) ∧ W2.cell? ⟨g, 9, none⟩ = some (.slice o.pa o.pn o.pc)) := ⟨y0, y1, y2, y3, y4, y5, y6, y7, y8, y9⟩
          clear y0 y1 y2 y3 y4 y5 y6 y7 y8 y9
          go_upto_region 9 with fail
          rw [HW2.out]
          obtain ⟨y0, y1, y2, y3, y4, y5, y6, y7, y8, y9⟩ := HY.out
          clear x0 x1 x2 x3 x4 x5 x6 x7 x8 x9 HY f5
          go_wp2_with (at_builtin; refine wpList_append_eq rfl _ _ 22 rfl _ _ _ (by rfl) (by rfl) HRUN.out ?_)
          go_roundg (N - (i + 1))
          case measure => go_light; omega
          case rel => go_light; exact ⟨i + 1, _, by omega, rfl, by simp, rfl, HFIN.out.1, HFIN.out.2⟩
        · have hl1 : ¬ (4096 : Int) < ((o.b.length : Nat) : Int) := by omega
          have eC : cutO o = o := by
            show ({ o with b := o.b.take 4096 } : OpV) = o
            rw [List.take_of_length_le (by omega)]
          obtain ⟨va, vc, w3, hrun, hown3, hg3⟩ := app_op HOW1.out o (by omega) HBW.out.size
          have HRUN : Hid _ := hrun
          have HFIN : Hid (w3.ownsRow w.heap.size 33 10 (.slice va ((((l.take i).filter fewO).map cutO).length + 1) vc) (((l.take (i + 1)).filter fewO).map cutO).length (opsCells (((l.take (i + 1)).filter fewO).map cutO)) ∧ Below w.heap.size w w3) := by
            rw [HSTEP, eC, opsCells_snoc, List.length_append]
            exact ⟨hown3, grown_own HBW.out HOW1.out hg3⟩
          clear rq bq HOWN HOW1 HBW hrun hown3 hg3 HSTEP ho eC
          generalize (((l.take i).filter fewO).map cutO).length = CN at *
          go_wp2_with (at_builtin; refine wpList_append_eq rfl _ _ 22 rfl _ _ _ (by rfl) (by rfl) HRUN.out ?_)
          go_roundg (N - (i + 1))
          case measure => go_light; omega
          case rel => go_light; exact ⟨i + 1, _, by omega, rfl, by simp, rfl, HFIN.out.1, HFIN.out.2⟩
      · have hfe : fewO o = false := by
          unfold fewO
          rw [Bool.and_eq_false_iff, decide_eq_false_iff_not, decide_eq_false_iff_not]
          omega
        rw [hfe, if_neg (by simp), List.append_nil] at HSTEP
        have HFIN : Hid (W1.ownsRow w.heap.size 33 10 u3 (((l.take (i + 1)).filter fewO).map cutO).length (opsCells (((l.take (i + 1)).filter fewO).map cutO)) ∧ Below w.heap.size w W1) := by
          rw [HSTEP]
          exact ⟨HOW1.out, HBW.out⟩
        clear rq bq HOWN HOW1 HBW HSTEP ho
        by_cases n1 : o.kind < 1
        · go_wp2_with fail
          go_roundg (N - (i + 1))
          case measure => go_light; omega
          case rel => go_light; exact ⟨i + 1, _, by omega, rfl, by simp, rfl, HFIN.out.1, HFIN.out.2⟩
        · have n2 : (6 : Int) < o.kind := by omega
          go_wp2_with fail
          go_roundg (N - (i + 1))
          case measure => go_light; omega
          case rel => go_light; exact ⟨i + 1, _, by omega, rfl, by simp, rfl, HFIN.out.1, HFIN.out.2⟩
    · obtain rfl : i = N := by omega
      have HFIN : Hid (wr.ownsRow w.heap.size 33 10 u3 R.length (opsCells R) ∧ Below w.heap.size w wr) := by
        rw [HF.out]; exact ⟨hown, hb⟩
      clear hown hb
      by_cases hz : i < L
      · have z1 : (i : Int) < (L : Int) := by omega
        have z2 : ¬ (i : Int) < 200 := by omega
        go_wp2_with fail
        go_ret
        exact ⟨_, rfl, HFIN.out.1, HFIN.out.2⟩
      · have z1 : ¬ (i : Int) < (L : Int) := by omega
        go_wp2_with fail
        go_ret
        exact ⟨_, rfl, HFIN.out.1, HFIN.out.2⟩
end Go.Proofs.Ytbnlgohaaadgeaa

/- The law's own helpers: seen. -/
namespace Go.Proofs.Ytbnlgohaaadgeaa
open Go.RowKit Go.Maps Go.Sort
set_option maxRecDepth 100000
set_option maxRecDepth 100000

/-- The cells of an image's files. -/
def fbL (I : Image) (dv : Nat → Value) : Nat → List Value
  | 0 => []
  | k + 1 => fbL I dv k ++ [.string (nmI I k), dv k]
theorem fbL_len (I : Image) (dv : Nat → Value) : ∀ k, (fbL I dv k).length = k * 2
  | 0 => rfl
  | k + 1 => by rw [fbL, List.length_append, fbL_len I dv k]; simp; omega
theorem fbL_at (I : Image) (dv : Nat → Value) : ∀ k i, i < k → (fbL I dv k)[i * 2]? = some (.string (nmI I i)) ∧ (fbL I dv k)[i * 2 + 1]? = some (dv i)
  | 0, i, h => absurd h (Nat.not_lt_zero _)
  | k + 1, i, h => by
    have hl := fbL_len I dv k
    by_cases e : i = k
    · subst e
      rw [fbL, List.getElem?_append_right (by omega), List.getElem?_append_right (by omega), hl, Nat.sub_self, show i * 2 + 1 - i * 2 = 1 by omega]
      exact ⟨rfl, rfl⟩
    · obtain ⟨q1, q2⟩ := fbL_at I dv k i (by omega)
      rw [fbL, List.getElem?_append_left (by omega), List.getElem?_append_left (by omega)]
      exact ⟨q1, q2⟩
theorem fbL_congr (I : Image) {dv dv' : Nat → Value} : ∀ k, (∀ i, i < k → dv i = dv' i) → fbL I dv k = fbL I dv' k
  | 0, _ => rfl
  | k + 1, h => by rw [fbL, fbL, fbL_congr I k (fun i hi => h i (by omega)), h k (by omega)]
theorem app_fb2 {w : World} {K n : Nat} {v : Value} {xs : List Value} (h : w.ownsRow K 51 2 v n xs) (y z : Value) (hy : y.oneCell' = true) (hz : z.oneCell' = true) (hn : n ≤ 1100000) (hK : K ≤ w.heap.size) :
    ∃ v' w', (Builtin.append_ #[35, 35] 35 #[v, .slice (some ⟨w.heap.size, 0, none⟩) 1 1]).run Try.prog (w.alloc (.cells #[y, z] 51)) = .ok v' w' ∧ w'.ownsRow K 51 2 v' (n + 1) (xs ++ [y, z]) ∧ w.grownBy w' v.ownBlock := by
  obtain ⟨i0, hi, hh⟩ := Option.map_eq_some_iff.1 infoFB
  simp only [Prod.mk.injEq] at hh
  obtain ⟨hz0, hz1, hz2⟩ := hh
  have hnews : ∀ j u, [y, z][j]? = some u → (w.alloc (.cells #[y, z] 51)).cell? ((⟨w.heap.size, 0, none⟩ : Addr).add j) = some u := fun j u hj => by
    match j with
    | 0 => simp at hj; subst hj; simp [Addr.add]
    | 1 => simp at hj; subst hj; simp [Addr.add]
    | j + 2 => simp at hj
  have hml : maxLen = 9223372036854775807 := rfl
  obtain ⟨v', w', h1, h2, h3, _, _⟩ := run_append_own_at (P := Try.prog) (w.alloc (.cells #[y, z] 51)) K 35 35 51 i0 _ 2 40 Try.underlying35 hi hz0 hz1 hz2 rfl (by decide) v n xs (h.alloc _) ⟨w.heap.size, 0, none⟩ 1 1 [y, z] rfl hnews (fun u hu => by
    rcases List.mem_cons.1 hu with e | hu
    · rw [e]; exact hy
    · rw [List.mem_singleton.1 hu]; exact hz) (by omega) (by omega) (by simp; omega)
  have hsz : (w.alloc (.cells #[y, z] 51)).heap.size = w.heap.size + 1 := by simp
  exact ⟨v', w', h1, h2, ⟨h3.os, h3.tape, h3.output, by have := h3.size; omega, fun b hb hne => (h3.block b (by omega) hne).trans (Below.heap_alloc _ _ _ hb)⟩⟩
theorem Lies.wide {lo lo' hi : Nat} {w : World} {P : World → Prop} (h : Lies lo hi w P) (hl : lo' ≤ lo) : Lies lo' hi w P := ⟨h.1, fun W hW => h.2 W (fun k h1 h2 => hW k (by omega) h2)⟩
/-- An image that grows. -/
structure Sn (w wx : World) (v : Value) (k : Nat) (I : Image) (dv : Nat → Value) : Prop where
  below : Below w.heap.size w wx
  own : wx.ownsRow w.heap.size 51 2 v k (fbL I dv k)
  data : ∀ i, i < k → OwnL wx w.heap.size (dv i) (dtI I i)
theorem Sn.on {w wx wy : World} {v : Value} {k : Nat} {I : Image} {dv : Nat → Value} (h : Sn w wx v k I dv) (hb : Below wx.heap.size wx wy) : Sn w wy v k I dv :=
  ⟨h.below.trans (hb.mono h.below.size), own_on h.own hb, fun i hi => (h.data i hi).on (fun k e => hb.block k ((h.data i hi).lt k e).2)⟩
theorem Sn.push {w wx : World} {v : Value} {k : Nat} {I : Image} {dv : Nat → Value} (h : Sn w wx v k I dv) (hk : k ≤ 1000000) {x : Value} (hx : OwnL wx w.heap.size x (dtI I k)) :
    ∃ a c w', (Builtin.append_ #[35, 35] 35 #[v, .slice (some ⟨wx.heap.size, 0, none⟩) 1 1]).run Try.prog (wx.alloc (.cells #[.string (nmI I k), x] 51)) = .ok (.slice a (k + 1) c) w' ∧ Sn w w' (.slice a (k + 1) c) (k + 1) I (vput dv k x) := by
  obtain ⟨xa, xc, ex, _, _, _⟩ := hx.bl
  obtain ⟨v', w', h1, h2, h3⟩ := app_fb2 h.own (.string (nmI I k)) x rfl (by rw [ex]; rfl) (by omega) h.below.size
  obtain ⟨a, c, rfl⟩ : ∃ a c, v' = .slice a (k + 1) c := by
    rcases h2.2 with ⟨_, h0⟩ | ⟨g, c', cur, e, _⟩
    · omega
    · exact ⟨_, c', e⟩
  have keep : ∀ y l, OwnL wx w.heap.size y l → OwnL w' w.heap.size y l := fun y l hy => hy.on (fun b e => h3.block b (hy.lt b e).2 (fun e2 => rows_apart2 h.own hy (by decide) b e2.symm e))
  refine ⟨a, c, w', h1, grown_own h.below h.own h3, ?_, fun i hi => ?_⟩
  · have e : fbL I (vput dv k x) (k + 1) = fbL I dv k ++ [.string (nmI I k), x] := by
      rw [fbL, vput_at, fbL_congr I k (fun i hi => vput_ne dv k x (by omega))]
    rw [e]; exact h2
  · by_cases e : i = k
    · rw [e, vput_at]; exact keep x _ hx
    · rw [vput_ne _ _ _ e]; exact keep _ _ (h.data i (by omega))
theorem Sn.lies {w wx : World} {a : Option Addr} {k c : Nat} {I : Image} {dv : Nat → Value} (h : Sn w wx (.slice a k c) k I dv) (hk : k = I.length) : Lies w.heap.size wx.heap.size wx (fun W => ImgI W a I) := by
  refine ⟨Nat.le_refl _, fun W hW i hi => ?_⟩
  have hi : i < k := by rw [hk]; exact hi
  rcases h.own.2 with ⟨e, h0⟩ | ⟨g, cap, cur, e, hbase, _⟩
  · omega
  · have ea : a = some ⟨g, 0, none⟩ := by injection e
    have hglt : g < wx.heap.size := (rows_lt h.own g (by rw [e]; rfl)).2
    obtain ⟨q1, q2⟩ := fbL_at I dv k i hi
    have hl := fbL_len I dv k
    have own' := h.own
    rw [e] at own'
    have c1 : wx.cell? ⟨g, i * 2, none⟩ = some (.string (nmI I i)) := by rw [World.ownsRow.cellAt own' (i * 2) (by omega)]; exact q1
    have c2 : wx.cell? ⟨g, i * 2 + 1, none⟩ = some (dv i) := by rw [World.ownsRow.cellAt own' (i * 2 + 1) (by omega)]; exact q2
    have hc : ∀ j x, wx.cell? ⟨g, j, none⟩ = some x → W.cell? ⟨g, j, none⟩ = some x := fun j x hx => by
      rw [World.cell?_of_block (a := ⟨g, j, none⟩) (hW g hbase hglt)]; exact hx
    have hd := h.data i hi
    have hd' : OwnL W w.heap.size (dv i) (dtI I i) := hd.on (fun b e => hW b (hd.lt b e).1 (hd.lt b e).2)
    obtain ⟨a', c', ev, _, hbl, _⟩ := hd'.bl
    refine ⟨g, 0, ea, by rw [Nat.zero_add]; exact hc _ _ c1, a', c', ?_, hbl⟩
    rw [Nat.zero_add]
    show W.cell? ⟨g, i * 2 + 1, none⟩ = some (.slice a' (dtI I i).length c')
    rw [← ev]
    exact hc _ _ c2

/-- Read at a name that is seen. -/
theorem readM_at {p : DM} {n T : Nat} (hI : Inv p n T) (hoff : p.off = false) {q : Lit × DataW Nat} (hq : q ∈ entsOf p.seen) : readM p (nameB q) = ((fileOf p.fm q.2).all, 0) := by
  have hE := hI.ents
  obtain ⟨ok1, ok2, _⟩ := hE.names.1.name hq
  have hm := hE.names.2
  obtain ⟨es, e, _, hall⟩ := hE
  have hq' : q ∈ es := by rw [e] at hq; exact hq
  obtain ⟨_, _, _, i, hi, h3⟩ := hall q hq'
  have hat : p.seen.atKey (.string (nameB q).data.toList) .nil = .held i := by
    rw [← h3, hm, ← ok2]
    refine WideAt.atKey_mem .nil (by rw [ok2]; exact litS _) hI.ents.names.1.apart hq
  have hf : findM p.off p.seen (nameB q) = (some i, 0) := by
    unfold findM
    rw [hoff, ok1, hat]
    rfl
  unfold readM
  rw [hf, h3]
  rfl

set_option maxHeartbeats 3200000 in
theorem seen_is {w : World} {B db : Nat} {p : DM} {n T : Nat} {F : Nat → Prop} (h : DK w B db p n T F) (hT : T ≤ 1099511627000) :
    Calls Try.prog 11 #[.pointer (some ⟨db, 0, none⟩)] w fun e w' => ∃ a c, e = .returned (.slice a (lookI p).length c) ∧ Lies w.heap.size w'.heap.size w' (fun W => ImgI W a (lookI p)) ∧ Below w.heap.size w w' := by
  obtain ⟨S, HS⟩ : ∃ S : Value → World → Prop, Hid (∀ v W, S v W ↔ ∃ a c, v = .slice a (lookI p).length c ∧ Lies w.heap.size W.heap.size W (fun W => ImgI W a (lookI p)) ∧ Below w.heap.size w W) := ⟨_, fun _ _ => Iff.rfl⟩
  refine Calls.mono (?_ : Calls _ _ _ _ fun e w' => ∃ v, e = .returned v ∧ S v w') (fun e w' ⟨v, he, hr⟩ => by
    obtain ⟨a, c, ev, q1, q2⟩ := (HS.out v w').1 hr
    exact ⟨a, c, by rw [he, ev], q1, q2⟩)
  by_cases hoff : p.off = true
  · have hl := h.listOff hoff
    have e : lookI p = [] := by unfold lookI; rw [if_pos hoff]
    rw [e] at HS
    have HL : Hid (Calls Try.prog 29 #[.pointer (some ⟨db, 0, none⟩)] w fun e w' => e = .returned (.tuple #[.slice none 0 0, .int .i64 45]) ∧ w' = w) := hl
    have HE : Hid (S (.slice none 0 0) w) := (HS.out _ _).2 ⟨none, 0, rfl, ⟨Nat.le_refl _, fun W _ i hi => absurd hi (Nat.not_lt_zero _)⟩, Below.refl _ _⟩
    clear h hl e HS
    go_enter Try.func11, Try.ntmps11
    go_wp2_with fail
    refine HL.out.mono ?_
    rintro e w1 ⟨rfl, rfl⟩
    go_wp2_with fail
    go_loopg [3, 6] 0 (fun q s3 s6 wx => q = 0 ∧ s3 = .slice none 0 0 ∧ s6 = .int .i64 0 ∧ w1 = wx)
    case atStart => exact ⟨rfl, rfl, rfl, rfl⟩
    case round =>
      obtain ⟨rfl, rfl, rfl, rfl⟩ := hrel
      go_wp2_with fail
      go_ret
      exact ⟨_, rfl, HE.out⟩
  · have hoff : p.off = false := by simpa using hoff
    have hl := h.list hoff
    have hI := h.inv
    have hcnt : (entsOf p.seen).length ≤ 64 := by
      have := hI.cnt
      obtain ⟨es, e, _, _⟩ := hI.ents
      rw [e] at this ⊢
      exact this
    have e : lookI p = seenI p := by unfold lookI; rw [if_neg (by rw [hoff]; simp)]
    rw [e] at HS
    have hlen : (namesI p).length = (seenI p).length := by unfold namesI seenI; rw [List.length_map, List.length_map]
    have hlen2 : (seenI p).length ≤ 64 := by unfold seenI; rw [List.length_map]; exact hcnt
    have HRD : Hid (∀ W i, Below w.heap.size w W → i < (seenI p).length → Calls Try.prog 28 #[.pointer (some ⟨db, 0, none⟩), .string (nmI (seenI p) i)] W fun e w' => ∃ v, e = .returned (.tuple #[v, .int .i64 0]) ∧ OwnL w' W.heap.size v (dtI (seenI p) i) ∧ Below W.heap.size W w') := fun W i hb hi => by
      obtain ⟨q, hq⟩ : ∃ q, (entsOf p.seen)[i]? = some q := ⟨_, List.getElem?_eq_getElem (by unfold seenI at hi; rwa [List.length_map] at hi)⟩
      have hs : (seenI p)[i]? = some (keyB q.1, (fileOf p.fm q.2).all) := by unfold seenI; rw [List.getElem?_map, hq]; rfl
      obtain ⟨e1, e2⟩ := nmI_at hs
      have hr := (h.on hb).read hT (nameB q)
      rw [readM_at hI hoff (List.mem_of_getElem? hq)] at hr
      rw [e1, e2]
      exact hr
    have HNM : Hid (∀ i, i < (seenI p).length → (namesI p)[i]? = some (((seenI p).map (·.1)).getD i [])) := fun i hi => by
      have : (seenI p).map (·.1) = namesI p := by unfold seenI namesI; rw [List.map_map]; rfl
      rw [this, List.getD, List.getElem?_eq_getElem (by omega)]
      rfl
    have HL : Hid (Calls Try.prog 29 #[.pointer (some ⟨db, 0, none⟩)] w fun e w' => ∃ a c, e = .returned (.tuple #[.slice a (seenI p).length c, .int .i64 0]) ∧ Lies w.heap.size w'.heap.size w' (fun W => NamesAt W a (namesI p)) ∧ Below w.heap.size w w') := by rw [hlen] at hl; exact hl
    clear h hl e hI hcnt hlen
    generalize namesI p = NL at *
    generalize seenI p = I at *
    obtain ⟨L, HLL⟩ : ∃ L, Hid (I.length = L) := ⟨_, rfl⟩
    rw [HLL.out] at hlen2
    rw [HLL.out] at HL HRD HNM HS
    go_enter Try.func11, Try.ntmps11
    go_wp2_with fail
    refine HL.out.mono ?_
    rintro e w1 ⟨na, nc, rfl, hnl, hb1⟩
    clear HL
    have HNL : Hid (NamesAt w1 na NL) := hnl.now
    have HB1 : Hid (Below w.heap.size w w1) := hb1
    clear hnl hb1
    have hS0 : Sn w1 w1 (.slice none 0 0) 0 I (fun _ => .slice none 0 0) := ⟨Below.refl _ _, ⟨rfl, .inl ⟨rfl, rfl⟩⟩, fun i hi => absurd hi (Nat.not_lt_zero _)⟩
    go_wp2_with fail
    go_loopg [3, 6] L (fun q s3 s6 wx => ∃ (i : Nat) (va : Option Addr) (vc : Nat) (dv : Nat → Value), i ≤ L ∧ q = L - i ∧ s6 = .int .i64 i ∧ s3 = .slice va i vc ∧ Sn w1 wx (.slice va i vc) i I dv)
    case atStart => exact ⟨0, none, 0, _, Nat.zero_le _, rfl, rfl, rfl, hS0⟩
    case round =>
      obtain ⟨i, va, vc, dv, hi, rfl, rfl, rfl, hS⟩ := hrel
      clear hS0
      by_cases hlt : i < L
      · have hz : (i : Int) < (L : Int) := by omega
        obtain ⟨g, rfl, hcn⟩ := HNL.out i _ (HNM.out i hlt)
        have hcn : w1.cell? ⟨g, i, none⟩ = some (.string (nmI I i)) := hcn
        have hcr := cel_on hS.below hcn
        have hwi : IntKind.i64.wrap ((i : Int) + 1) = (i : Int) + 1 := by rw [IntKind.wrap_i64]; omega
        have HR : Hid (Calls Try.prog 28 #[.pointer (some ⟨db, 0, none⟩), .string (nmI I i)] wr fun e w' => ∃ xa xn xc, e = .returned (.tuple #[.slice xa xn xc, .int .i64 0]) ∧ w'.cell? ⟨g, i, none⟩ = some (.string (nmI I i)) ∧ ∃ a' c' w3, (Builtin.append_ #[35, 35] 35 #[.slice va i vc, .slice (some ⟨w'.heap.size, 0, none⟩) 1 1]).run Try.prog (w'.alloc (.cells #[.string (nmI I i), .slice xa xn xc] 51)) = .ok (.slice a' (i + 1) c') w3 ∧ (∃ dv', Sn w1 w3 (.slice a' (i + 1) c') (i + 1) I dv')) := by
          refine (HRD.out wr i (HB1.out.trans (hS.below.mono HB1.out.size)) hlt).mono fun e w' ⟨v, he, ho, hb⟩ => ?_
          obtain ⟨xa, xc, rfl, _, _, _⟩ := ho.bl
          have ho' : OwnL w' w1.heap.size (.slice xa (dtI I i).length xc) (dtI I i) := by
            refine ⟨ho.1, ?_⟩
            rcases ho.2 with q | ⟨g', cap, cur, e1, e2, e3⟩
            · exact .inl q
            · exact .inr ⟨g', cap, cur, e1, Nat.le_trans hS.below.size e2, e3⟩
          have hS' := hS.on hb
          obtain ⟨a', c', w3, hr, hS3⟩ := hS'.push (by omega) ho'
          exact ⟨xa, (dtI I i).length, xc, he, cel_on hb hcr, a', c', w3, hr, ⟨_, hS3⟩⟩
        clear HRD HNM hS hcn HNL HS
        generalize nmI I i = s at *
        go_wp2_with fail
        refine HR.out.mono ?_
        rintro e w2 ⟨xa, xn, xc, rfl, hc2, a', c', w3, hrun, hS3⟩
        have HRUN : Hid _ := hrun
        have HS3 : Hid _ := hS3
        clear HR hrun hS3 hcr
        go_wp2_with (at_builtin; refine wpList_append_eq rfl _ _ 35 rfl _ _ _ (by rfl) (by rfl) HRUN.out ?_)
        obtain ⟨dv', hS3⟩ := HS3.out
        go_roundg (L - (i + 1))
        case measure => go_light; omega
        case rel => go_light; exact ⟨i + 1, _, _, dv', by omega, rfl, by simp, rfl, hS3⟩
      · obtain rfl : i = L := by omega
        have HF : Hid (S (.slice va i vc) wr) := (HS.out _ _).2 ⟨va, vc, rfl, (hS.lies HLL.out.symm).wide HB1.out.size, HB1.out.trans (hS.below.mono HB1.out.size)⟩
        clear hS HRD HNM HNL HS
        have hz : ¬ ((i : Int) < (i : Int)) := by omega
        go_wp2_with fail
        go_ret
        exact ⟨_, rfl, HF.out⟩
end Go.Proofs.Ytbnlgohaaadgeaa

/- The law's own helpers: open, copied. -/
namespace Go.Proofs.Ytbnlgohaaadgeaa
open Go.RowKit Go.Maps Go.Sort Go.Joins
set_option maxRecDepth 100000
set_option maxRecDepth 100000

theorem app4_err : (appD (emptyP 4) ⟨#[97]⟩ [120, 121, 122] 0).2 = 0 := by decide +kernel
theorem app4_read : readM (appD (emptyP 4) ⟨#[97]⟩ [120, 121, 122] 0).1 ⟨#[97]⟩ = ([120, 121, 122], 0) := by decide +kernel
theorem lit_bl (W : World) (C : Array Value) (l : List Nat) (fr : Nat × Nat) (h : ∀ j, j < l.length → C[j]? = some (.int .u8 (l.getD j 0 : Nat))) : BL (W.alloc (.cells C 5 fr)) (some ⟨W.heap.size, 0, none⟩) l := fun j hj => ⟨W.heap.size, 0, rfl, by
  have e : (W.alloc (.cells C 5 fr)).cell? ⟨W.heap.size, j, none⟩ = C[j]? := by
    have hh : (W.alloc (.cells C 5 fr)).heap[W.heap.size]? = some (.cells C 5 fr) := by
      show (W.heap.push _)[W.heap.size]? = _
      simp
    simp only [World.cell?, hh]
    rfl
  rw [Nat.zero_add, e]
  exact h j hj⟩
theorem FileIs.low {w : World} {B B' fb : Nat} {m : FM} {rv cv : Value} {av : Nat → Value} (h : FileIs w B fb m rv cv av) (hB : B' ≤ B) : FileIs w B' fb m rv cv av :=
  ⟨h.row, ownsRow_le h.own hB, ownsRow_le h.cow hB, fun i c hc => ownsRow_le (h.aow i c hc) hB, h.ra, h.aa, Nat.le_trans hB h.lb⟩
theorem DK.low {w : World} {B B' db : Nat} {p : DM} {n T : Nat} {F : Nat → Prop} (h : DK w B db p n T F) (hB : B' ≤ B) : DK w B' db p n T F := by
  obtain ⟨hI, sb, nb, N, mv, fs, fv, ρ, d, hD, hR, hfs, hN, e⟩ := h
  exact ⟨hI, sb, nb, N, mv, fs, fv, ρ, d, ⟨hD.row, hD.safe, hD.seen, ownsRow_le hD.mow hB, fun b hb => (hD.files b hb).low hB, hD.apart, hD.sn, ⟨Nat.le_trans hB hD.lb.1, Nat.le_trans hB hD.lb.2.1, Nat.le_trans hB hD.lb.2.2.1, Nat.le_trans hB hD.lb.2.2.2⟩⟩, hR, hfs, hN, e⟩
set_option maxHeartbeats 3200000 in
theorem open_is (w : World) :
    Calls Try.prog 8 #[] w fun e w' => ∃ db F, e = .returned (.pointer (some ⟨db, 0, none⟩)) ∧ DK w' w.heap.size db (emptyP 67108864) 0 64 F ∧ Below w.heap.size w w' := by
  have HNUM : Hid (∀ (e : Int) W, Calls Try.prog 15 #[.int .i64 e] W fun r w' => r = .returned (.int .i64 e) ∧ w' = W) := num_is
  have HN4 : Hid (Calls Try.prog 18 #[.int .i64 4] w fun e w' => ∃ db F, e = .returned (.tuple #[.pointer (some ⟨db, 0, none⟩), .int .i64 0]) ∧ DK w' w.heap.size db (emptyP 4) 0 64 F ∧ Below w.heap.size w w') := new_is 4 w (by decide)
  have HNB : Hid (∀ W, Below w.heap.size w W → Calls Try.prog 18 #[.int .i64 67108864] W fun e w' => ∃ db F, e = .returned (.tuple #[.pointer (some ⟨db, 0, none⟩), .int .i64 0]) ∧ (∃ F, DK w' w.heap.size db (emptyP 67108864) 0 64 F) ∧ Below w.heap.size w w') := fun W hb => (new_is 67108864 W (by decide)).mono fun e w' ⟨db, F, he, hD, hb'⟩ => by
    exact ⟨db, F, he, ⟨F, hD.low hb.size⟩, hb.trans (hb'.mono hb.size)⟩
  go_enter Try.func8, Try.ntmps8
  go_wp2_with fail
  refine HN4.out.mono ?_
  rintro e w1 ⟨db, F, rfl, hD, hb1⟩
  clear HN4
  have kc := Lib.run_convert_bytes_const (P := Try.prog) w1 29 5 #[.int .u8 120, .int .u8 121, .int .u8 122] 3 3 Try.underlying29 Try.underlying5
  have bq : Below w1.heap.size w1 (w1.alloc (.cells #[.int .u8 120, .int .u8 121, .int .u8 122] 5 (3, 4))) := (Below.refl _ _).alloc (Nat.le_refl _) _
  have HA : Hid (Calls Try.prog 32 #[.pointer (some ⟨db, 0, none⟩), .string ⟨#[97]⟩, .slice (some ⟨w1.heap.size, 0, none⟩) 3 3] (w1.alloc (.cells #[.int .u8 120, .int .u8 121, .int .u8 122] 5 (3, 4))) fun e w' => e = .returned (.int .i64 0) ∧ Below w.heap.size w w' ∧ Calls Try.prog 28 #[.pointer (some ⟨db, 0, none⟩), .string ⟨#[97]⟩] w' fun e w2 => ∃ a c, e = .returned (.tuple #[.slice a 3 c, .int .i64 0]) ∧ Below w.heap.size w w2 ∧ (convert 29 9 (.slice a 3 c)).run Try.prog w2 = .ok (.string ⟨#[120, 121, 122]⟩) w2) := by
    have hbl : BL (w1.alloc (.cells #[.int .u8 120, .int .u8 121, .int .u8 122] 5 (3, 4))) (some ⟨w1.heap.size, 0, none⟩) [120, 121, 122] := lit_bl w1 _ _ _ (fun j hj => by
      match j, hj with
      | 0, _ => rfl
      | 1, _ => rfl
      | 2, _ => rfl)
    refine ((hD.on bq).app (by decide) ⟨#[97]⟩ (some ⟨w1.heap.size, 0, none⟩) 3 [120, 121, 122] (by decide) hbl (fun e => by cases e) (fun ad e _ => ?_)).mono fun e w' ⟨he, F', hD', hM⟩ => ?_
    · have : ad.block = w1.heap.size := by
        have := Option.some.inj e
        rw [← this]
      rw [this]
      refine ⟨by simp, fun hf => ?_⟩
      have := (hD.lt _ hf).2
      omega
    · rw [app4_err] at he
      have hbw : Below w.heap.size w w' := Mv.below (hb1.trans (bq.mono hb1.size)) (Nat.le_trans hb1.size bq.size) (fun k hk => (hD.lt k hk).1) hM
      refine ⟨he, hbw, (hD'.read (by decide) ⟨#[97]⟩).mono fun e w2 ⟨v, he2, ho, hb2⟩ => ?_⟩
      rw [app4_read] at he2 ho
      obtain ⟨a, c, ev, _, hbl2, _⟩ := ho.bl
      subst ev
      obtain ⟨b, o, ea, _⟩ := hbl2 0 (by decide)
      subst ea
      refine ⟨_, c, he2, hbw.trans (hb2.mono hbw.size), ?_⟩
      exact run_convert_bytes_arg w2 29 5 Try.underlying29 Try.underlying5 b o 3 c [120, 121, 122] rfl (fun i hi => by
        obtain ⟨b', o', e', hc⟩ := hbl2 i hi
        cases e'
        rw [hc]
        match i, hi with
        | 0, _ => rfl
        | 1, _ => rfl
        | 2, _ => rfl) 9 Try.underlying9
  clear hD bq
  go_wp2_with (first
    | (go_at_call 15; refine (HNUM.out _ _).mono ?_; rintro e w3 ⟨rfl, rfl⟩)
    | (go_at_call 32; refine HA.out.mono ?_; rintro e w4 ⟨rfl, hb4, hrd⟩; have HRD : Hid (Calls Try.prog 28 #[.pointer (some ⟨db, 0, none⟩), .string ⟨#[97]⟩] w4 fun e w2 => ∃ a c, e = .returned (.tuple #[.slice a 3 c, .int .i64 0]) ∧ Below w.heap.size w w2 ∧ (convert 29 9 (.slice a 3 c)).run Try.prog w2 = .ok (.string ⟨#[120, 121, 122]⟩) w2) := hrd; clear hrd HA kc)
    | (go_at_call 28; refine HRD.out.mono ?_; rintro e w5 ⟨ra, rc, rfl, hb5, hcv⟩; clear HRD)
    | (go_at_call 18; refine (HNB.out _ hb5).mono ?_; rintro e w6 ⟨db6, F6, rfl, hD6, hb6⟩))
  go_ret
  obtain ⟨F7, hD7⟩ := hD6
  exact ⟨db6, F7, rfl, hD7, hb6⟩
end Go.Proofs.Ytbnlgohaaadgeaa

/- The law's own helpers: copied (an image in new memory). -/
namespace Go.Proofs.Ytbnlgohaaadgeaa
open Go.RowKit Go.Maps Go.Sort Go.Joins
set_option maxRecDepth 100000
set_option maxRecDepth 100000

theorem ImgI.at {w : World} {a : Option Addr} {I : Image} (h : ImgI w a I) {i : Nat} (hi : i < I.length) : ∃ b o, a = some ⟨b, o, none⟩ ∧ w.cell? ⟨b, o + i * 2, none⟩ = some (.string (nmI I i)) ∧ ∃ da dc, w.cell? ⟨b, o + i * 2 + 1, none⟩ = some (.slice da (dtI I i).length dc) ∧ BL w da (dtI I i) := h i hi
set_option maxHeartbeats 3200000 in
theorem copied_is (a : Option Addr) (c : Nat) (I : Image) (w : World) (h : ImgI w a I) (hn : I.length ≤ 1000) (hd : ∀ i, i < I.length → (dtI I i).length ≤ 67108864) :
    Calls Try.prog 14 #[.slice a I.length c] w fun e w' => ∃ v, e = .returned v ∧ (∃ a' c', v = .slice a' I.length c' ∧ Lies w.heap.size w'.heap.size w' (fun W => ImgI W a' I)) ∧ Below w.heap.size w w' := by
  obtain ⟨S, HS⟩ : ∃ S : Value → World → Prop, Hid (∀ v W, S v W ↔ ((∃ a' c', v = .slice a' I.length c' ∧ Lies w.heap.size W.heap.size W (fun W => ImgI W a' I)) ∧ Below w.heap.size w W)) := ⟨_, fun _ _ => Iff.rfl⟩
  refine Calls.mono (?_ : Calls _ _ _ _ fun e w' => ∃ v, e = .returned v ∧ S v w') (fun e w' ⟨v, he, hr⟩ => by
    obtain ⟨q1, q2⟩ := (HS.out v w').1 hr
    exact ⟨v, he, q1, q2⟩)
  have HI : Hid (ImgI w a I) := h
  have HD : Hid (∀ i, i < I.length → (dtI I i).length ≤ 67108864) := hd
  have hS0 : Sn w w (.slice none 0 0) 0 I (fun _ => .slice none 0 0) := ⟨Below.refl _ _, ⟨rfl, .inl ⟨rfl, rfl⟩⟩, fun i hi => absurd hi (Nat.not_lt_zero _)⟩
  obtain ⟨L, HLL⟩ : ∃ L, Hid (I.length = L) := ⟨_, rfl⟩
  rw [HLL.out] at hn HD HS ⊢
  clear h hd
  go_enter Try.func14, Try.ntmps14
  go_wp2_with fail
  go_loopg [3, 4] L (fun q s3 s4 wx => ∃ (i : Nat) (va : Option Addr) (vc : Nat) (dv : Nat → Value), i ≤ L ∧ q = L - i ∧ s4 = .int .i64 i ∧ s3 = .slice va i vc ∧ Sn w wx (.slice va i vc) i I dv)
  case atStart => exact ⟨0, none, 0, _, Nat.zero_le _, rfl, rfl, rfl, hS0⟩
  case round =>
    obtain ⟨i, va, vc, dv, hi, rfl, rfl, rfl, hS⟩ := hrel
    clear hS0
    by_cases hlt : i < L
    · have hz : (i : Int) < (L : Int) := by omega
      obtain ⟨b, o, rfl, h1w, da, dc, h2w, h3w⟩ := HI.out.at (i := i) (by rw [HLL.out]; exact hlt)
      have h1 := cel_on hS.below h1w
      have h2 := cel_on hS.below h2w
      have h3 := h3w.on hS.below
      have HSR : Hid (∀ W, Below w.heap.size w W → W.cell? ⟨b, o + i * 2, none⟩ = some (.string (nmI I i)) ∧ W.cell? ⟨b, o + i * 2 + 1, none⟩ = some (.slice da (dtI I i).length dc)) := fun W hb => ⟨cel_on hb h1w, cel_on hb h2w⟩
      clear h1w h2w h3w
      have HCP : Hid (∀ W, Below wr.heap.size wr W → Calls Try.prog 22 #[.slice da (dtI I i).length dc] W fun e w' => ∃ xa xn xc, e = .returned (.slice xa xn xc) ∧ Below wr.heap.size wr w' ∧ ∃ a' c' w3, (Builtin.append_ #[35, 35] 35 #[.slice va i vc, .slice (some ⟨w'.heap.size, 0, none⟩) 1 1]).run Try.prog (w'.alloc (.cells #[.string (nmI I i), .slice xa xn xc] 51)) = .ok (.slice a' (i + 1) c') w3 ∧ (∃ dv', Sn w w3 (.slice a' (i + 1) c') (i + 1) I dv') ∧ Below w.heap.size w w3) := fun W hb => by
        have hdl := HD.out i hlt
        refine (copy_any da (dtI I i).length dc (fun j => (dtI I i).getD j 0) W (by omega) (h3.on hb)).mono fun e w' ⟨he, hs, hz, hr⟩ => ?_
        have hbW := below_of_since hs
        have hbw := hb.trans (hbW.mono hb.size)
        have ho : OwnL w' w.heap.size (.slice (some ⟨W.heap.size, 0, none⟩) (dtI I i).length (dtI I i).length) (dtI I i) := ownL_row hr (Nat.le_trans hS.below.size hb.size) (by omega)
        obtain ⟨a', c', w3, hrun, hS3⟩ := (hS.on hbw).push (by omega) ho
        exact ⟨_, _, _, he, hbw, a', c', w3, hrun, ⟨_, hS3⟩, hS3.below⟩
      have hwi : IntKind.i64.wrap ((i : Int) + 1) = (i : Int) + 1 := by rw [IntKind.wrap_i64]; omega
      have bd : Below wr.heap.size wr wr.drew := (Below.refl _ _).drew
      clear h3 hS HI HD HS
      generalize (dtI I i).length = d at *
      generalize nmI I i = s at *
      go_upto_region 5 with fail
      go_region_held3 (fun W => W.cell? ⟨b, o + i * 2, none⟩ = some (.string s) ∧ W.cell? ⟨b, o + i * 2 + 1, none⟩ = some (.slice da d dc))
        (first | exact ⟨h1, h2⟩ | exact ⟨cel_on hbC h1, cel_on hbC h2⟩ | exact ⟨cel_on (hbC.alloc hbC.size _) h1, cel_on (hbC.alloc hbC.size _) h2⟩ | exact HSR.out _ hb3)
        (first
          | (go_at_call 22; refine (HCP.out _ (by first | exact Below.refl _ _ | exact bd)).mono ?_; rintro e w2 ⟨xa, xn, xc, rfl, hbC, a', c', w3, hrun, hS3, hb3⟩)
          | (refine step_apps (by rfl) _ _ 35 (by rfl) _ _ _ (by rfl) (by rfl) hrun ?_))
      all_goals
        obtain ⟨dv', hS3⟩ := hS3
        go_wp2_with fail
        go_roundg (L - (i + 1))
        case measure => go_light; omega
        case rel => go_light; exact ⟨i + 1, _, _, dv', by omega, rfl, by simp, rfl, hS3⟩
    · obtain rfl : i = L := by omega
      have HF : Hid (S (.slice va i vc) wr) := (HS.out _ _).2 ⟨⟨va, vc, rfl, hS.lies HLL.out.symm⟩, hS.below⟩
      clear hS HD HI HS
      have hz : ¬ ((i : Int) < (i : Int)) := by omega
      go_wp2_with fail
      go_ret
      exact ⟨_, rfl, HF.out⟩
end Go.Proofs.Ytbnlgohaaadgeaa
