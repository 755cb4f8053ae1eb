/- Own texts, joined: LS16, LS17, LS7. -/
import Derived.Test.YtcbebepngencjaaM1
import Derived.Test.YtcbebepngencjaaRows
import Derived.ProofKit
import Derived.OpenShut
import Derived.Lib.SmallJoins
import Derived.Deep.Slices

/- The law LeaseEpochs. -/
namespace Go.Proofs.Ytcbebepngencjaa
open Go.RowKit
set_option maxRecDepth 100000
set_option maxRecDepth 100000

theorem erow9_alloc (w : World) (o : LOp) : (w.alloc (.cells #[.int .i64 o.on, .int .i64 o.kd, .int .u64 (o.ep : Nat), .int .i64 o.ph, .bool o.a, .bool o.b, .int .i64 o.pl, .int .i64 o.cp, .int .i64 o.mo] 32)).rowIs w.heap.size 32 9 (lopCell o) :=
  World.rowIs_alloc w _ _ _ (fun i hi => by
    have hi' : i < 9 := hi
    match i, hi' with
    | 0, _ | 1, _ | 2, _ | 3, _ | 4, _ | 5, _ | 6, _ | 7, _ | 8, _ => rfl)
set_option maxHeartbeats 1000000 in
theorem has_no {w : World} {K m : Nat} {v : Value} {AL : List Nat} (h : w.ownsRow K 29 1 v m (AL.map fun x => .int .u64 (x : Nat))) (x : Nat) (hx : ∀ y, y ∈ AL → y ≠ x) (hm : m ≤ 100000) :
    Calls Try.prog 15 #[v, .int .u64 (x : Nat)] w fun e w' => e = .returned (.bool false) ∧ w = w' := by
  obtain ⟨a, cp, rfl, _, _⟩ := fown_slice h
  have hc : Hid (∀ i, i < m → ∃ (g y : Nat), a = some ⟨g, 0, none⟩ ∧ w.cell? ⟨g, i, none⟩ = some (.int .u64 (y : Nat)) ∧ y ≠ x) := fun i hi => by
    obtain ⟨g, cap, f, hv, _, hr, hcp, hf⟩ := own_row h (by omega)
    have h1 := hf i hi
    rw [List.getElem?_map] at h1
    obtain ⟨y, hy, hy2⟩ := Option.map_eq_some_iff.1 h1
    refine ⟨g, y, by simpa using (Value.slice.inj hv).1, ?_, hx y (List.mem_of_getElem? hy)⟩
    rw [hr.cell (i := i) (by omega), ← hy2]
  clear h hx
  go_enter Try.func15, Try.ntmps15
  go_wp2_with fail
  go_loopg [5] m (fun q s5 wx => ∃ i : Nat, i ≤ m ∧ q = m - i ∧ s5 = .int .i64 (i : Nat) ∧ w = wx)
  case atStart => exact ⟨0, Nat.zero_le _, rfl, rfl, rfl⟩
  case round =>
    obtain ⟨i, hi, rfl, rfl, rfl⟩ := hrel
    by_cases hlt : i < m
    · obtain ⟨g, y, rfl, hg, hne⟩ := hc.out i hlt
      have z : (i : Int) < (m : Int) := by omega
      have z0 : (0 : Int) ≤ (i : Int) := by omega
      have hwi : IntKind.i64.wrap ((i : Int) + 1) = (i : Int) + 1 := by rw [IntKind.wrap_i64]; omega
      have e1 : ((y : Int) == (x : Int)) = false := by simp; omega
      have e2 : (y == x) = false := by simp; omega
      have hme : m - (i + 1) < m - i := by omega
      have hi1 : i + 1 ≤ m := by omega
      clear hi hm hlt
      go_wp2_with fail
      go_roundg (m - (i + 1))
      case measure => go_light; exact hme
      case rel => go_light; exact ⟨i + 1, hi1, rfl, by simp, rfl⟩
    · have z : ¬ (i : Int) < (m : Int) := by omega
      clear hi hm hlt
      go_wp2_with fail
      go_ret
      exact ⟨rfl, rfl⟩

def EPX (w0 w : World) (lg lc tg tc c mo : Nat) (v7 : Value) (m n pt : Nat) : Prop := ∃ AL PB S, EP w0 w lg lc tg tc c mo v7 m AL PB S ∧ pt ≤ (S n).pat
section
variable {w0 w : World} {lg lc tg tc c mo : Nat} {v7 : Value} {m : Nat} {AL : List Nat} {PB : Nat → Nat} {S : Nat → Ls}
theorem EP.drewN (h : EP w0 w lg lc tg tc c mo v7 m AL PB S) (q : Nat) : EP w0 (w.drewN q) lg lc tg tc c mo v7 m AL PB S := h.on ⟨rfl, rfl, rfl, Nat.le_refl _, fun _ _ => rfl⟩
theorem EP.rest (h : EP w0 w lg lc tg tc c mo v7 m AL PB S) {n : Nat} (hn : n < c) : Calls Try.prog 14 #[.pointer (some ⟨PB n, 0, none⟩)] w fun e w' => e = .returned (.tuple #[]) ∧ Hid (EPX w0 w' lg lc tg tc c mo v7 m n (S n).pat) := by
  refine (rest_any (h.ls n hn)).mono fun e w' ⟨he, h1, m1⟩ => ⟨he, ?_⟩
  obtain ⟨a1, a2, a3, a4, a5⟩ := h.nu n hn
  have hpm := (h.ls n hn).ok.hpm
  exact ⟨AL, PB, _, (h.turn hn h1 m1 a1 a2 a3 (by show (S n).pat ≤ _; omega) a5 (Nat.le_refl _)).same (by simp only [if_true]), by simp only [if_true]; exact Nat.le_refl _⟩
/-- Heard, and what is to be noted behind it. -/
theorem EP.heard (h : EP w0 w lg lc tg tc c mo v7 m AL PB S) {n ob : Nat} {o : LOp} (ho : w.rowIs ob 32 9 (lopCell o)) (hn : n < c) (e : Nat) (he : e < 100000) : Calls Try.prog 10 #[.pointer (some ⟨PB n, 0, none⟩), .int .u64 (e : Nat), .bool o.a, .bool o.b] w fun r w1 => r = .returned (.tuple #[]) ∧ (w1.cell? ⟨lg, n, none⟩ = some (.pointer (some ⟨PB n, 0, none⟩)) ∧ w1.cell? ⟨ob, 4, none⟩ = some (.bool o.a) ∧ w1.cell? ⟨ob, 5, none⟩ = some (.bool o.b)) ∧ w1.cell? ⟨tg, n, none⟩ = some (.int .u64 ((S n).seen : Nat)) ∧ w1.frozen? ⟨tg, n, none⟩ = false ∧ Hid (((S n).seen < e → ∃ W2, Hid (w1.setCell ⟨tg, n, none⟩ (.int .u64 (e : Nat)) = W2) ∧ Hid (EPX w0 W2 lg lc tg tc c mo v7 m n (S n).pat)) ∧ (¬ (S n).seen < e → EPX w0 w1 lg lc tg tc c mo v7 m n (S n).pat)) := by
  refine (heard_any (h.ls n hn) e o.a o.b (by omega)).mono fun r w1 ⟨hr, h1, m1⟩ => ⟨hr, ?_⟩
  obtain ⟨a1, a2, a3, a4, a5⟩ := h.nu n hn
  have hpm := (h.ls n hn).ok.hpm
  have hse : (heardM (S n) e o.a o.b).seen = if (S n).seen < e then e else (S n).seen := rfl
  have q := h.turn hn h1 m1 a1 a2 a3 (by show (if _ then (S n).pat else (S n).left) ≤ _; split <;> omega) (by rw [hse]; split <;> omega) (by rw [hse]; split <;> omega)
  have ho1 := ho.of_block (m1.block _ ho.lt (erow_apart ho (h.ls n hn).row (by decide)))
  obtain ⟨c1, c2, c3⟩ := q.ct
  refine ⟨⟨c3, ho1.cell (i := 4) (by decide), ho1.cell (i := 5) (by decide)⟩, c1, c2, fun hlt => ⟨_, rfl, AL, PB, fun j => if j = n then heardM (S n) e o.a o.b else S j, ?_, ?_⟩, fun hlt => ⟨AL, PB, fun j => if j = n then heardM (S n) e o.a o.b else S j, q.same ?_, ?_⟩⟩
  · have := q.note
    rw [show ((fun j => if j = n then heardM (S n) e o.a o.b else S j) n).seen = e by simp only [if_true]; rw [hse, if_pos hlt]] at this
    exact this
  · simp only [if_true]; exact Nat.le_refl _
  · simp only [if_true]; rw [hse, if_neg hlt]
  · simp only [if_true]; exact Nat.le_refl _
/-- A tick that begins an epoch. -/
theorem EP.begins (h : EP w0 w lg lc tg tc c mo v7 m AL PB S) {n ob : Nat} {o : LOp} (ho : w.rowIs ob 32 9 (lopCell o)) (hn : n < c) (hm : m ≤ 100000) (hb : (S n).left - 1 = 0 ∧ o.b = true) (hx : nextM (lowM (S n)) ≠ 0) :
    Calls Try.prog 12 #[.pointer (some ⟨PB n, 0, none⟩), .int .i64 0, .bool false, .bool true] w fun e w1 => ∃ x : Nat, e = .returned (.tuple #[.int .u64 (x : Nat), .bool false]) ∧ (w1.cell? ⟨lg, n, none⟩ = some (.pointer (some ⟨PB n, 0, none⟩)) ∧ w1.cell? ⟨ob, 5, none⟩ = some (.bool true)) ∧ w1.cell? ⟨tg, n, none⟩ = some (.int .u64 ((S n).seen : Nat)) ∧ Hid ((S n).seen < x ∧ x ≤ (S n).seen + c ∧ x % c = n ∧ x ≤ 1099511627776) ∧
      Hid (Calls Try.prog 15 #[v7, .int .u64 (x : Nat)] w1 fun e w' => e = .returned (.bool false) ∧ w1 = w') ∧
      ∃ a' c' w2, Hid ((Builtin.append_ #[40, 40] 40 #[v7, .slice (some ⟨w1.heap.size, 0, none⟩) 1 1]).run Try.prog (w1.alloc (.cells #[.int .u64 (x : Nat)] 29)) = .ok (.slice a' (m + 1) c') w2) ∧ w2.cell? ⟨tg, n, none⟩ = some (.int .u64 ((S n).seen : Nat)) ∧ w2.frozen? ⟨tg, n, none⟩ = false ∧ ∃ W3, Hid (w2.setCell ⟨tg, n, none⟩ (.int .u64 (x : Nat)) = W3) ∧ Hid (EPX w0 W3 lg lc tg tc c mo (.slice a' (m + 1) c') (m + 1) n (S n).pat) := by
  obtain ⟨a1, a2, a3, a4, a5⟩ := h.nu n hn
  have hl := h.ls n hn
  have hok : (lowM (S n)).Ok := ⟨by show (S n).left - 1 ≤ _; have := hl.ok.hl; omega, satM_le (by decide), satM_le (by decide), hl.ok.hp, hl.ok.hc, hl.ok.hm, hl.ok.he, hl.ok.h4, hl.ok.hpm⟩
  have hgt := nxF_gt hok
  have hnl : nextM (lowM (S n)) ≤ 1099511627776 := next_le
  have hnx : nextM (lowM (S n)) = nxF (lowM (S n)) := by
    unfold nextM at hx ⊢
    split at hx
    · exact absurd rfl hx
    · rename_i h1
      rw [if_neg h1]
      split at hx
      · exact absurd rfl hx
      · rename_i h2
        rw [if_neg h2]
  have hpl := hl.ok.hp
  have hsl : (lowM (S n)).seen = (S n).seen := rfl
  have hE : nxE (lowM (S n)) = (S n).seen - (S n).seen % c + n := by show (S n).seen - (S n).seen % (S n).copies + (S n).place = _; rw [a1, a2]
  have hF : nxF (lowM (S n)) = if nxE (lowM (S n)) ≤ (S n).seen then nxE (lowM (S n)) + c else nxE (lowM (S n)) := by have hcc : (lowM (S n)).copies = c := a1; unfold nxF; rw [hcc]; rfl
  have hml := Nat.mod_le (S n).seen c
  have hle : nxF (lowM (S n)) ≤ (S n).seen + c := by rw [hF, hE]; split <;> omega
  have hdv : c ∣ (S n).seen - (S n).seen % c := Nat.dvd_sub_mod _
  have hmd : nxF (lowM (S n)) % c = n := by
    obtain ⟨k, hk⟩ := hdv
    rw [hF, hE, hk]
    split
    · rw [Nat.add_mod_right, Nat.mul_add_mod, Nat.mod_eq_of_lt hn]
    · rw [Nat.mul_add_mod, Nat.mod_eq_of_lt hn]
  have e1 : tickM (S n) 0 false true = (beginM (lowM (S n)), nextM (lowM (S n)), false) := by
    unfold tickM
    rw [if_neg (by simp), if_pos rfl, if_pos ⟨hb.1, rfl⟩]
  have hdb := dbl_le hok
  have hbg : beginM (lowM (S n)) = { lowM (S n) with seen := nextM (lowM (S n)), pat := dblM (lowM (S n)), left := dblM (lowM (S n)) } := by
    unfold beginM
    rw [if_neg hx]
  have hpp : (lowM (S n)).pat = (S n).pat := rfl
  have hmo : (lowM (S n)).most = mo := a3
  refine (tick_any hl 0 false true).mono fun e w1 ⟨he, h1, m1⟩ => ?_
  rw [e1] at he h1
  replace h1 : LsIs w1 (PB n) (beginM (lowM (S n))) := h1
  replace he : e = .returned (.tuple #[.int .u64 (nextM (lowM (S n)) : Nat), .bool false]) := he
  rw [hnx] at hbg hnl
  rw [hnx] at he
  have hsn : (beginM (lowM (S n))).seen = nxF (lowM (S n)) := by rw [hbg]
  have q := h.turn hn h1 m1 (by rw [hbg]; exact a1) (by rw [hbg]; exact a2) (by rw [hbg]; exact a3) (by rw [hbg]; show dblM (lowM (S n)) ≤ _; omega) (by rw [hsn]; exact hnl) (by rw [hsn]; omega)
  have ho1 := ho.of_block (m1.block _ ho.lt (erow_apart ho hl.row (by decide)))
  obtain ⟨c1, c2, c3⟩ := q.ct
  have hno : ∀ y, y ∈ AL → y ≠ nxF (lowM (S n)) := fun y hy e => by
    have := h.ax y hy
    rw [e, hmd] at this
    omega
  obtain ⟨a', c', w2, hr, q2⟩ := q.app (x := nxF (lowM (S n))) hm (by rw [hmd]; simp only [if_true]; rw [hsn]; exact Nat.le_refl _)
  obtain ⟨d1, d2, d3⟩ := q2.ct
  refine ⟨nxF (lowM (S n)), he, ⟨c3, by have := ho1.cell (i := 5) (by decide); rw [this]; show some (Value.bool o.b) = _; rw [hb.2]⟩, c1, ⟨by omega, hle, hmd, hnl⟩, has_no q.al _ hno (by omega), a', c', w2, hr, d1, d2, _, rfl, AL ++ [nxF (lowM (S n))], PB, fun j => if j = n then beginM (lowM (S n)) else S j, ?_, ?_⟩
  · have := q2.note
    simp only [if_true, hsn] at this
    exact this
  · simp only [if_true]
    rw [hbg]
    show (S n).pat ≤ dblM (lowM (S n))
    omega
/-- A tick that begins none. -/
theorem EP.idles (h : EP w0 w lg lc tg tc c mo v7 m AL PB S) {n ob : Nat} {o : LOp} (ho : w.rowIs ob 32 9 (lopCell o)) (hn : n < c) (hx : ¬ (((S n).left - 1 = 0 ∧ o.b = true) ∧ nextM (lowM (S n)) ≠ 0)) :
    Calls Try.prog 12 #[.pointer (some ⟨PB n, 0, none⟩), .int .i64 0, .bool false, .bool o.b] w fun e w1 => e = .returned (.tuple #[.int .u64 0, .bool false]) ∧ (w1.cell? ⟨lg, n, none⟩ = some (.pointer (some ⟨PB n, 0, none⟩)) ∧ w1.cell? ⟨ob, 5, none⟩ = some (.bool o.b)) ∧ Hid (EPX w0 w1 lg lc tg tc c mo v7 m n (S n).pat) := by
  obtain ⟨a1, a2, a3, a4, a5⟩ := h.nu n hn
  have hl := h.ls n hn
  have hpm := hl.ok.hpm
  have key : ∀ s' : Ls, s'.copies = (S n).copies → s'.place = (S n).place → s'.most = (S n).most → s'.left ≤ mo + c → s'.seen = (S n).seen → s'.pat = (S n).pat → tickM (S n) 0 false o.b = (s', 0, false) → Calls Try.prog 12 #[.pointer (some ⟨PB n, 0, none⟩), .int .i64 0, .bool false, .bool o.b] w fun e w1 => e = .returned (.tuple #[.int .u64 0, .bool false]) ∧ (w1.cell? ⟨lg, n, none⟩ = some (.pointer (some ⟨PB n, 0, none⟩)) ∧ w1.cell? ⟨ob, 5, none⟩ = some (.bool o.b)) ∧ Hid (EPX w0 w1 lg lc tg tc c mo v7 m n (S n).pat) := fun s' b1 b2 b3 b4 b5 b6 e1 => by
    refine (tick_any hl 0 false o.b).mono fun e w1 ⟨he, h1, m1⟩ => ?_
    rw [e1] at he h1
    replace h1 : LsIs w1 (PB n) s' := h1
    have q := h.turn hn h1 m1 (b1.trans a1) (b2.trans a2) (b3.trans a3) b4 (by omega) (by omega)
    have ho1 := ho.of_block (m1.block _ ho.lt (erow_apart ho hl.row (by decide)))
    exact ⟨he, ⟨q.ct.2.2, ho1.cell (i := 5) (by decide)⟩, AL, PB, _, q.same (by simp only [if_true]; exact b5), by simp only [if_true]; omega⟩
  by_cases hb : (S n).left - 1 = 0 ∧ o.b = true
  · have hx0 : nextM (lowM (S n)) = 0 := Classical.byContradiction fun e => hx ⟨hb, e⟩
    refine key (beginM (lowM (S n))) ?_ ?_ ?_ ?_ ?_ ?_ ?_
    · unfold beginM; rw [if_pos hx0]; rfl
    · unfold beginM; rw [if_pos hx0]; rfl
    · unfold beginM; rw [if_pos hx0]; rfl
    · unfold beginM; rw [if_pos hx0]; show (S n).pat ≤ _; omega
    · unfold beginM; rw [if_pos hx0]; rfl
    · unfold beginM; rw [if_pos hx0]; rfl
    · unfold tickM; rw [if_neg (by simp), if_pos rfl, if_pos hb, hx0]
  · refine key (lowM (S n)) rfl rfl rfl (by show (S n).left - 1 ≤ _; omega) rfl rfl ?_
    unfold tickM; rw [if_neg (by simp), if_pos rfl, if_neg hb]
end
end Go.Proofs.Ytcbebepngencjaa

/- The law LeaseEpochs: its walk. -/
namespace Go.Proofs.Ytcbebepngencjaa
open Go.RowKit
set_option maxRecDepth 100000
set_option maxRecDepth 100000

set_option maxHeartbeats 16000000 in
theorem epochsLaw (P C M : Int) (sN : Nat) (oa : Option Addr) (oc : Nat) (L : List LOp) (w : World) (hO : LOpsIn w oa L) :
    Calls Try.prog 4 #[.agg #[.int .i64 P, .int .i64 C, .int .i64 M, .int .u64 (sN : Nat), .slice oa L.length oc]] w fun e w' => e = .returned (.bool true) ∧ Below w.heap.size w w' := by
  obtain ⟨W0, HW0⟩ : ∃ W, Hid (w.alloc (.cells #[.int .i64 P, .int .i64 C, .int .i64 M, .int .u64 (sN : Nat), .slice oa L.length oc] 38) = W) := ⟨_, rfl⟩
  have hb0 : Below w.heap.size w W0 := by rw [← HW0.out]; exact (Below.refl _ _).alloc (Nat.le_refl _) _
  have kc : ∀ i v, (#[Value.int .i64 P, .int .i64 C, .int .i64 M, .int .u64 (sN : Nat), .slice oa L.length oc] : Array Value)[i]? = some v → W0.cell? ⟨w.heap.size, i, none⟩ = some v := fun i v h => by rw [← HW0.out]; exact (World.cell?_alloc_at (w := w) _ _ _ i rfl).trans h
  have hlt := cel_lt (kc 0 _ rfl)
  have HO : Hid (LOpsIn W0 oa L) := hO.on hb0
  have HB0 : Hid (Below w.heap.size w W0) := hb0
  obtain ⟨sb, Hsb⟩ : ∃ x, Hid (w.heap.size = x) := ⟨_, rfl⟩
  rw [Hsb.out] at kc hlt HB0
  have HC : Hid (∀ W, Below W0.heap.size W0 W → W.cell? ⟨sb, 0, none⟩ = some (.int .i64 P) ∧ W.cell? ⟨sb, 1, none⟩ = some (.int .i64 C) ∧ W.cell? ⟨sb, 2, none⟩ = some (.int .i64 M) ∧ W.cell? ⟨sb, 3, none⟩ = some (.int .u64 (sN : Nat)) ∧ W.cell? ⟨sb, 4, none⟩ = some (.slice oa L.length oc)) := fun W hb =>
    ⟨cel_on hb hlt (kc 0 _ rfl), cel_on hb hlt (kc 1 _ rfl), cel_on hb hlt (kc 2 _ rfl), cel_on hb hlt (kc 3 _ rfl), cel_on hb hlt (kc 4 _ rfl)⟩
  have HEND : Hid (∀ W : World, Below W0.heap.size W0 W → Calls Try.prog 7 #[] W fun e w' => e = .returned (.bool true) ∧ Hid (Below sb w w')) := fun W hb => (begun_any W).mono fun e w' ⟨he, hb2⟩ => ⟨he, HB0.out.trans ((hb.trans (hb2.mono hb.size)).mono (by omega))⟩
  have HBG : Hid (Calls Try.prog 7 #[] W0 fun e w1 => e = .returned (.bool true) ∧ w1.cell? ⟨sb, 1, none⟩ = some (.int .i64 C) ∧ w1.cell? ⟨sb, 2, none⟩ = some (.int .i64 M) ∧ Hid (Below W0.heap.size W0 w1) ∧
      Hid (Calls Try.prog 8 #[.int .i64 C, .int .i64 9] w1 fun e w' => w1 = w' ∧ ∃ k x : Nat, e = .returned (.int .i64 (k : Nat)) ∧ (1 : Int) + (k : Int) = (x : Int) ∧ IntKind.i64.wrap (x : Int) = (x : Int) ∧ Hid (1 ≤ x ∧ x < 1 + 9)) ∧
      Hid (Calls Try.prog 8 #[.int .i64 M, .int .i64 100] w1 fun e w' => w1 = w' ∧ ∃ k x : Nat, e = .returned (.int .i64 (k : Nat)) ∧ (4 : Int) + (k : Int) = (x : Int) ∧ IntKind.i64.wrap (x : Int) = (x : Int) ∧ Hid (4 ≤ x ∧ x < 4 + 100))) :=
    (begun_any W0).mono fun e w1 ⟨he, b1⟩ => ⟨he, (HC.out w1 b1).2.1, (HC.out w1 b1).2.2.1, b1, within_add 1 C 9 (by decide) (by decide) (by decide) w1, within_add 4 M 100 (by decide) (by decide) (by decide) w1⟩
  obtain ⟨sn, Hsn⟩ : ∃ sn : Nat, Hid (sN % 1000 = sn) := ⟨_, rfl⟩
  have hsm : (sN : Int).tmod 1000 = (sn : Int) := by rw [← Hsn.out]; exact (Int.ofNat_tmod _ _).symm
  have hsl : Hid (sn < 1000) := by have := Nat.mod_lt sN (show 0 < 1000 by decide); rw [Hsn.out] at this; exact this
  have wsn : IntKind.u64.wrap (sn : Int) = (sn : Int) := by have := hsl.out; rw [IntKind.wrap_u64]; omega
  clear kc hO hb0 hlt
  go_enter Try.func4, Try.ntmps4
  go_upto_region 1 with fail
  rw [HW0.out, Hsb.out]
  go_upto_region 4 with (first
    | (go_at_call 7; refine HBG.out.mono ?_; rintro e w1 ⟨rfl, d1, d2, HB1, HI1, HI2⟩)
    | (go_at_call 8; refine HI1.out.mono ?_; rintro e w2 ⟨rfl, k1, c, rfl, hc1, wc1, Hc⟩))
  go_upto_region 8 with (go_at_call 8; refine HI2.out.mono ?_; rintro e w2 ⟨rfl, k2, mo, rfl, hm1, wm1, Hm⟩)
  have HE0 : Hid (∃ PB, E1 W0 w1 (.slice none 0 0) (.slice none 0 0) 0 c mo sn PB) := ⟨fun _ => 0, World.ownsRow_nil _ _ _ _, World.ownsRow_nil _ _ _ _, fun j hj => by omega, fun j hj => by omega, fun j k hj => by omega, HB1.out⟩
  clear HBG HI1 HI2 d1 d2 HB1
  go_wp2_with fail
  go_loopg [5, 6, 8] c (fun q s5 s6 s8 wx => ∃ (i : Nat) (a5 a6 : Option Addr) (c5 c6 : Nat), i ≤ c ∧ q = c - i ∧ s5 = .slice a5 i c5 ∧ s6 = .slice a6 i c6 ∧ s8 = .int .i64 (i : Nat) ∧ Hid (∃ PB, E1 W0 wx (.slice a5 i c5) (.slice a6 i c6) i c mo sn PB))
  case atStart => exact ⟨0, none, none, 0, 0, Nat.zero_le _, rfl, rfl, rfl, rfl, HE0⟩
  case round =>
    clear HE0
    obtain ⟨i, a5, a6, c5, c6, hi, rfl, rfl, rfl, rfl, HX⟩ := hrel
    have hbx : Below W0.heap.size W0 wr := by obtain ⟨_, h⟩ := HX.out; exact h.below
    obtain ⟨x0, x1, x2, x3, x4⟩ := HC.out wr hbx
    by_cases hic : i < c
    · have zi : (i : Int) < (c : Int) := by omega
      have HM : Hid (Calls Try.prog 9 #[.int .i64 (i : Nat), .int .i64 (c : Nat), .int .i64 (mo : Nat), .int .u64 (sn : Nat)] wr fun e w1 => ∃ pb, e = .returned (.pointer (some ⟨pb, 0, none⟩)) ∧
        ∃ a5' c5' w2, Hid ((Builtin.append_ #[39, 39] 39 #[.slice a5 i c5, .slice (some ⟨w1.heap.size, 0, none⟩) 1 1]).run Try.prog (w1.alloc (.cells #[.pointer (some ⟨pb, 0, none⟩)] 27)) = .ok (.slice a5' (i + 1) c5') w2) ∧
        ∃ a6' c6' w3, Hid ((Builtin.append_ #[40, 40] 40 #[.slice a6 i c6, .slice (some ⟨w2.heap.size, 0, none⟩) 1 1]).run Try.prog (w2.alloc (.cells #[.int .u64 (sn : Nat)] 29)) = .ok (.slice a6' (i + 1) c6') w3) ∧
        Hid (∃ PB', E1 W0 w3 (.slice a5' (i + 1) c5') (.slice a6' (i + 1) c6') (i + 1) c mo sn PB')) := by
        obtain ⟨PB, h⟩ := HX.out
        have h1 := Hc.out
        have h2 := Hm.out
        exact h.more hic (by omega) h2.1 (by omega) hsl.out
      have hwi : IntKind.i64.wrap ((i : Int) + 1) = (i : Int) + 1 := by have := Hc.out; rw [IntKind.wrap_i64]; omega
      have hme : c - (i + 1) < c - i := by omega
      have hi1 : i + 1 ≤ c := by omega
      clear HX hbx x0 x1 x2 x4 hi hic
      go_wp2_with (first
        | (go_at_call 9; refine HM.out.mono ?_; rintro e w4 ⟨pb, rfl, a5', c5', w5, HP5, a6', c6', w6, HP6, HK⟩)
        | (at_builtin; refine wpList_append_eq rfl _ _ 39 rfl _ _ _ (by rfl) (by rfl) HP5.out ?_)
        | (at_builtin; refine wpList_append_eq rfl _ _ 40 rfl _ _ _ (by rfl) (by rfl) HP6.out ?_))
      go_roundg (c - (i + 1))
      case measure => go_light; exact hme
      case rel => go_light; exact ⟨i + 1, a5', a6', c5', c6', hi1, rfl, rfl, rfl, by simp, HK⟩
    · obtain rfl : i = c := by omega
      have zi : ¬ (i : Int) < (i : Int) := by omega
      obtain ⟨lg, lc, tg, tc, HEE, HX2⟩ : ∃ lg lc tg tc, Hid ((Value.slice a5 i c5 = .slice (some ⟨lg, 0, none⟩) i lc) ∧ (Value.slice a6 i c6 = .slice (some ⟨tg, 0, none⟩) i tc)) ∧ Hid (∃ AL PB S, EP W0 wr lg lc tg tc i mo (.slice none 0 0) 0 AL PB S) := by
        obtain ⟨PB, h⟩ := HX.out
        have h1 := Hc.out
        have h2 := Hm.out
        obtain ⟨lg, lc, tg, tc, e1, e2, h3⟩ := h.done (by omega) hsl.out h2.1
        exact ⟨lg, lc, tg, tc, ⟨e1, e2⟩, [], PB, _, h3⟩
      obtain ⟨hE1, hE2⟩ := HEE.out
      injection hE1 with ea _ ec
      injection hE2 with eb _ ed
      have ec' := ec.symm
      have ed' := ed.symm
      clear ec ed
      subst ea eb ec' ed'
      clear HEE HX hbx x0 x1 x2 x3 x4 hi hic hsm hsl wsn Hsn
      generalize wr = wrO at *
      go_wp2_with fail
      go_loopg [7, 10] 3000 (fun q s7 s10 wx => ∃ (k m : Nat) (a7 : Option Addr) (c7 : Nat), k ≤ 3000 ∧ m ≤ k ∧ q = 3000 - k ∧ s7 = .slice a7 m c7 ∧ s10 = .int .i64 (k : Nat) ∧ Hid (∃ AL PB S, EP W0 wx lg lc tg tc i mo (.slice a7 m c7) m AL PB S))
      case atStart => exact ⟨0, 0, none, 0, Nat.zero_le _, Nat.le_refl _, rfl, rfl, rfl, HX2⟩
      case round =>
        clear HX2
        obtain ⟨k, m, a7, c7, hk, hmk, rfl, rfl, rfl, HX⟩ := hrel
        have hbx : Below W0.heap.size W0 wr := by obtain ⟨_, _, _, h⟩ := HX.out; exact h.below
        obtain ⟨x0, x1, x2, x3, x4⟩ := HC.out wr hbx
        generalize i = c at *
        by_cases hgo : k < L.length ∧ k < 3000
        · obtain ⟨o, ho⟩ : ∃ o, L[k]? = some o := ⟨_, List.getElem?_eq_getElem hgo.1⟩
          obtain ⟨hok, b, off, rfl, hq⟩ := (HO.out.on hbx) k o ho
          have q0 : wr.cell? ⟨b, off + k * 9, none⟩ = some (.int .i64 o.on) := hq 0 (by decide)
          have q1 : wr.cell? ⟨b, off + k * 9 + 1, none⟩ = some (.int .i64 o.kd) := hq 1 (by decide)
          have q2 : wr.cell? ⟨b, off + k * 9 + 2, none⟩ = some (.int .u64 (o.ep : Nat)) := hq 2 (by decide)
          have q3 : wr.cell? ⟨b, off + k * 9 + 3, none⟩ = some (.int .i64 o.ph) := hq 3 (by decide)
          have q4 : wr.cell? ⟨b, off + k * 9 + 4, none⟩ = some (.bool o.a) := hq 4 (by decide)
          have q5 : wr.cell? ⟨b, off + k * 9 + 5, none⟩ = some (.bool o.b) := hq 5 (by decide)
          have q6 : wr.cell? ⟨b, off + k * 9 + 6, none⟩ = some (.int .i64 o.pl) := hq 6 (by decide)
          have q7 : wr.cell? ⟨b, off + k * 9 + 7, none⟩ = some (.int .i64 o.cp) := hq 7 (by decide)
          have q8 : wr.cell? ⟨b, off + k * 9 + 8, none⟩ = some (.int .i64 o.mo) := hq 8 (by decide)
          have z1 : (k : Int) < (L.length : Int) := by omega
          have z2 : (k : Int) < 3000 := by omega
          have z0 : (0 : Int) ≤ (k : Int) := by omega
          have hwi : IntKind.i64.wrap ((k : Int) + 1) = (k : Int) + 1 := by rw [IntKind.wrap_i64]; omega
          have hme : 3000 - (k + 1) < 3000 - k := by omega
          have HK1 : Hid (k + 1 ≤ 3000 ∧ m ≤ k) := ⟨by omega, hmk⟩
          obtain ⟨Wo, HWo⟩ : ∃ W, Hid (wr.alloc (.cells #[.int .i64 o.on, .int .i64 o.kd, .int .u64 (o.ep : Nat), .int .i64 o.ph, .bool o.a, .bool o.b, .int .i64 o.pl, .int .i64 o.cp, .int .i64 o.mo] 32) = W) := ⟨_, rfl⟩
          have hbo : Below wr.heap.size wr Wo := by rw [← HWo.out]; exact (Below.refl _ _).alloc (Nat.le_refl _) _
          have hro := erow9_alloc wr o
          rw [HWo.out] at hro
          obtain ⟨ob, Hob⟩ : ∃ x, Hid (wr.heap.size = x) := ⟨_, rfl⟩
          rw [Hob.out] at hro
          obtain ⟨AL, PB, S, hEP0⟩ := HX.out
          have hEP := hEP0.on hbo
          have p0 : Wo.cell? ⟨ob, 0, none⟩ = some (.int .i64 o.on) := hro.cell (i := 0) (by decide)
          have p1 : Wo.cell? ⟨ob, 1, none⟩ = some (.int .i64 o.kd) := hro.cell (i := 1) (by decide)
          have hc9 : 1 ≤ c ∧ c < 10 := Hc.out
          obtain ⟨n, hn, HIN⟩ : ∃ n : Nat, n < c ∧ Hid (Calls Try.prog 8 #[.int .i64 o.on, .int .i64 (c : Nat)] Wo fun e w' => Wo = w' ∧ e = .returned (.int .i64 (n : Nat))) := by
            have h2 := Int.emod_nonneg o.on (show (c : Int) ≠ 0 by omega)
            have h3 := Int.emod_lt_of_pos o.on (show (0 : Int) < (c : Int) by omega)
            exact ⟨(o.on % c).toNat, by omega, within_any o.on c (by omega) (by omega) Wo⟩
          have zn : (n : Int) < (c : Int) := by omega
          have zn0 : (0 : Int) ≤ (n : Int) := by omega
          have cl := hEP.cl' hn
          have HPT : Hid (Calls Try.prog 13 #[.pointer (some ⟨PB n, 0, none⟩)] Wo fun e w' => e = .returned (.int .i64 ((S n).pat : Nat)) ∧ Wo = w') := patience_any (hEP.ls n hn)
          obtain ⟨pt, Hpt⟩ : ∃ pt, Hid ((S n).pat = pt) := ⟨_, rfl⟩
          rw [Hpt.out] at HPT
          clear hbo HX hbx hq hgo ho x0 x1 x2 x3 hk hmk hEP0
          generalize L.length = LL at *
          go_upto_region 18 with fail
          rw [HWo.out, Hob.out]
          obtain ⟨kd, hkd⟩ : ∃ kd, o.kd = kd := ⟨_, rfl⟩
          rw [hkd] at p1
          clear HWo Hob q0 q1 q2 q3 q4 q5 q6 q7 q8 x4
          go_upto_block 4 with (first
            | (go_at_call 8; refine HIN.out.mono ?_; rintro e w6 ⟨rfl, rfl⟩)
            | (go_at_call 13; refine HPT.out.mono ?_; rintro e w6 ⟨rfl, rfl⟩))
          go_cut [7] from 48 to 227 (fun s7 wx => ∃ (m' : Nat) (a' : Option Addr) (c' : Nat), s7 = .slice a' m' c' ∧ m' ≤ k + 1 ∧ Hid (EPX W0 wx lg lc tg tc c mo (.slice a' m' c') m' n pt))
          case first =>
            as_aux_lemma =>
              by_cases k1 : kd = 1
              · subst k1
                have he : (o.ep : Int).tmod 100000 = ((o.ep % 100000 : Nat) : Int) := (Int.ofNat_tmod _ _).symm
                have hel := Nat.mod_lt o.ep (show 0 < 100000 by decide)
                have hew : IntKind.u64.wrap ((o.ep % 100000 : Nat) : Int) = ((o.ep % 100000 : Nat) : Int) := by rw [IntKind.wrap_u64]; omega
                have hd := hEP.drewN 1
                have hrod : (Wo.drewN 1).rowIs ob 32 9 (lopCell o) := hro.of_block rfl
                have p2 : Wo.cell? ⟨ob, 2, none⟩ = some (.int .u64 (o.ep : Nat)) := hro.cell (i := 2) (by decide)
                have cld : Wo.drew.cell? ⟨lg, n, none⟩ = some (.pointer (some ⟨PB n, 0, none⟩)) := cl
                have p4d : Wo.drew.cell? ⟨ob, 4, none⟩ = some (.bool o.a) := hrod.cell (i := 4) (by decide)
                have p5d : Wo.drew.cell? ⟨ob, 5, none⟩ = some (.bool o.b) := hrod.cell (i := 5) (by decide)
                have HF0 := hd.heard hrod hn (o.ep % 100000) hel
                rw [Hpt.out] at HF0
                obtain ⟨sx, Hsx⟩ : ∃ sx, Hid ((S n).seen = sx) := ⟨_, rfl⟩
                rw [Hsx.out] at HF0
                generalize o.ep % 100000 = ep at *
                have HF : Hid (Calls Try.prog 10 #[.pointer (some ⟨PB n, 0, none⟩), .int .u64 (ep : Nat), .bool o.a, .bool o.b] Wo.drew fun r w1 => r = .returned (.tuple #[]) ∧ (w1.cell? ⟨lg, n, none⟩ = some (.pointer (some ⟨PB n, 0, none⟩)) ∧ w1.cell? ⟨ob, 4, none⟩ = some (.bool o.a) ∧ w1.cell? ⟨ob, 5, none⟩ = some (.bool o.b)) ∧ w1.cell? ⟨tg, n, none⟩ = some (.int .u64 (sx : Nat)) ∧ w1.frozen? ⟨tg, n, none⟩ = false ∧ Hid ((sx < ep → ∃ W2, Hid (w1.setCell ⟨tg, n, none⟩ (.int .u64 (ep : Nat)) = W2) ∧ Hid (EPX W0 W2 lg lc tg tc c mo (.slice a7 m c7) m n pt)) ∧ (¬ sx < ep → EPX W0 w1 lg lc tg tc c mo (.slice a7 m c7) m n pt))) := HF0
                generalize PB n = pb at *
                generalize o.a = oaa at *
                generalize o.b = obb at *
                generalize o.ep = oep at *
                clear hEP hd hro hrod HF0 p0 hkd hel HPT HIN hok
                go_upto_region 29 with fail
                go_region_held3 (fun W => W.cell? ⟨lg, n, none⟩ = some (.pointer (some ⟨pb, 0, none⟩)) ∧ W.cell? ⟨ob, 4, none⟩ = some (.bool oaa) ∧ W.cell? ⟨ob, 5, none⟩ = some (.bool obb))
                  (first | exact ⟨cld, p4d, p5d⟩ | exact ⟨v1, v4, v5⟩)
                  (first | (go_at_call 10; with_reducible refine HF.out.mono ?_; rintro e w7 ⟨rfl, ⟨v1, v4, v5⟩, vt, vf, HK⟩))
                all_goals
                  by_cases hlt : sx < ep
                  · obtain ⟨W2, HW2, HK2⟩ := HK.out.1 hlt
                    have zz : (ep : Int) > (sx : Int) := by omega
                    have hmm : m ≤ k + 1 := by have := HK1.out; omega
                    clear HK hlt HF
                    go_wp2_with fail
                    rw [HW2.out]
                    go_meet
                    case rel => go_light; exact ⟨m, a7, c7, rfl, hmm, HK2⟩
                  · have HK2 : Hid (EPX W0 w7 lg lc tg tc c mo (.slice a7 m c7) m n pt) := HK.out.2 hlt
                    have zz : ¬ (ep : Int) > (sx : Int) := by omega
                    have hmm : m ≤ k + 1 := by have := HK1.out; omega
                    clear HK hlt HF
                    go_wp2_with fail
                    go_meet
                    case rel => go_light; exact ⟨m, a7, c7, rfl, hmm, HK2⟩
              · have e1 : (kd == 1) = false := by simp [k1]
                by_cases k2 : kd = 2
                · subst k2
                  have HF0 := hEP.rest hn
                  rw [Hpt.out] at HF0
                  have HF : Hid (Calls Try.prog 14 #[.pointer (some ⟨PB n, 0, none⟩)] Wo fun e w' => e = .returned (.tuple #[]) ∧ Hid (EPX W0 w' lg lc tg tc c mo (.slice a7 m c7) m n pt)) := HF0
                  have hmm : m ≤ k + 1 := by have := HK1.out; omega
                  generalize PB n = pb at *
                  clear hEP hro HF0 p0 hkd HPT HIN hok
                  go_wp2_with (go_at_call 14; refine HF.out.mono ?_; rintro e w7 ⟨rfl, HK⟩)
                  go_meet
                  case rel => go_light; exact ⟨m, a7, c7, rfl, hmm, HK⟩
                · have e2 : (kd == 2) = false := by simp [k2]
                  have hd := hEP.drewN 1
                  have hrod : (Wo.drewN 1).rowIs ob 32 9 (lopCell o) := hro.of_block rfl
                  have cld : Wo.drew.cell? ⟨lg, n, none⟩ = some (.pointer (some ⟨PB n, 0, none⟩)) := cl
                  have p5d : Wo.drew.cell? ⟨ob, 5, none⟩ = some (.bool o.b) := hrod.cell (i := 5) (by decide)
                  by_cases hx : ((S n).left - 1 = 0 ∧ o.b = true) ∧ nextM (lowM (S n)) ≠ 0
                  · have hmm : m ≤ 100000 := by have := HK1.out; omega
                    have HF0 := hd.begins hrod hn hmm hx.1 hx.2
                    rw [Hpt.out] at HF0
                    have hsb : (S n).seen ≤ 1099511627776 := (hEP.nu n hn).2.2.2.2
                    obtain ⟨sx, Hsx⟩ : ∃ sx, Hid ((S n).seen = sx) := ⟨_, rfl⟩
                    rw [Hsx.out] at HF0 hsb
                    rw [hx.1.2] at p5d
                    have hobt : o.b = true := hx.1.2
                    have HF : Hid (Calls Try.prog 12 #[.pointer (some ⟨PB n, 0, none⟩), .int .i64 0, .bool false, .bool true] Wo.drew fun e w1 => ∃ x : Nat, e = .returned (.tuple #[.int .u64 (x : Nat), .bool false]) ∧ (w1.cell? ⟨lg, n, none⟩ = some (.pointer (some ⟨PB n, 0, none⟩)) ∧ w1.cell? ⟨ob, 5, none⟩ = some (.bool true)) ∧ w1.cell? ⟨tg, n, none⟩ = some (.int .u64 (sx : Nat)) ∧ Hid (sx < x ∧ x ≤ sx + c ∧ x % c = n ∧ x ≤ 1099511627776) ∧
                        Hid (Calls Try.prog 15 #[.slice a7 m c7, .int .u64 (x : Nat)] w1 fun e w' => e = .returned (.bool false) ∧ w1 = w') ∧
                        ∃ a' c' w2, Hid ((Builtin.append_ #[40, 40] 40 #[.slice a7 m c7, .slice (some ⟨w1.heap.size, 0, none⟩) 1 1]).run Try.prog (w1.alloc (.cells #[.int .u64 (x : Nat)] 29)) = .ok (.slice a' (m + 1) c') w2) ∧ w2.cell? ⟨tg, n, none⟩ = some (.int .u64 (sx : Nat)) ∧ w2.frozen? ⟨tg, n, none⟩ = false ∧ ∃ W3, Hid (w2.setCell ⟨tg, n, none⟩ (.int .u64 (x : Nat)) = W3) ∧ Hid (EPX W0 W3 lg lc tg tc c mo (.slice a' (m + 1) c') (m + 1) n pt)) := HF0
                    generalize PB n = pb at *
                    generalize o.b = obb at *
                    clear hEP hd hro hrod HF0 p0 hkd hx HPT HIN hok Hpt hmm
                    subst hobt
                    have wc : IntKind.u64.wrap (c : Int) = (c : Int) := by rw [IntKind.wrap_u64]; omega
                    have wn : IntKind.u64.wrap (n : Int) = (n : Int) := by rw [IntKind.wrap_u64]; omega
                    have zc : ((c : Int) == 0) = false := by simp; omega
                    have zc' : ¬ (c : Int) = 0 := by omega
                    obtain ⟨sc, hsc, hsc2⟩ : ∃ y : Nat, (sx : Int) + (c : Int) = (y : Int) ∧ y = sx + c := ⟨sx + c, by omega, rfl⟩
                    have wsc : IntKind.u64.wrap (sc : Int) = (sc : Int) := by rw [IntKind.wrap_u64]; omega
                    go_upto_region 21 with fail
                    go_region_held3 (fun W => W.cell? ⟨lg, n, none⟩ = some (.pointer (some ⟨pb, 0, none⟩)) ∧ W.cell? ⟨ob, 5, none⟩ = some (.bool true))
                      (first | exact ⟨cld, p5d⟩ | exact ⟨v1, v5⟩)
                      (first | (go_at_call 12; with_reducible refine HF.out.mono ?_; rintro e w7 ⟨x, rfl, ⟨v1, v5⟩, vt, Hx, HH, a', c', w8, HP, vt2, vf2, W3, HW3, HK⟩))
                    all_goals
                      have hxx := Hx.out
                      have zx0 : ¬ (x : Int) = 0 := by omega
                      have zx1 : ((x : Int) != 0) = true := by simp; omega
                      have zx2 : (x != 0) = true := by simp; omega
                      have zx3 : ¬ (x : Int) ≤ (sx : Int) := by omega
                      have zx4 : ¬ (x : Int) > (sc : Int) := by omega
                      have hmd : (x : Int).tmod (c : Int) = (n : Int) := by rw [← hxx.2.2.1]; exact (Int.ofNat_tmod _ _).symm
                      have zn3 : ((n : Int) != (n : Int)) = false := by simp
                      have hmm1 : m + 1 ≤ k + 1 := by have := HK1.out; omega
                      have zd1 : decide ((x : Int) ≤ (sx : Int)) = false := by simp; omega
                      have zd2 : decide ((sc : Int) < (x : Int)) = false := by simp; omega
                      have zd3 : decide (x ≤ sx) = false := by simp; omega
                      have zd4 : decide (sc < x) = false := by simp; omega
                      clear hxx Hx HF hsc2 hsb
                      go_wp2_with (first
                        | (go_at_call 15; refine HH.out.mono ?_; rintro e w9 ⟨rfl, rfl⟩)
                        | (at_builtin; refine wpList_append_eq rfl _ _ 40 rfl _ _ _ (by rfl) (by rfl) HP.out ?_))
                      rw [HW3.out]
                      go_meet
                      case rel => go_light; exact ⟨m + 1, a', c', rfl, hmm1, HK⟩
                  · have HF0 := hd.idles hrod hn hx
                    rw [Hpt.out] at HF0
                    have HF : Hid (Calls Try.prog 12 #[.pointer (some ⟨PB n, 0, none⟩), .int .i64 0, .bool false, .bool o.b] Wo.drew fun e w1 => e = .returned (.tuple #[.int .u64 0, .bool false]) ∧ (w1.cell? ⟨lg, n, none⟩ = some (.pointer (some ⟨PB n, 0, none⟩)) ∧ w1.cell? ⟨ob, 5, none⟩ = some (.bool o.b)) ∧ Hid (EPX W0 w1 lg lc tg tc c mo (.slice a7 m c7) m n pt)) := HF0
                    have hmm : m ≤ k + 1 := by have := HK1.out; omega
                    generalize PB n = pb at *
                    generalize o.b = obb at *
                    clear hEP hd hro hrod HF0 p0 hkd hx HPT HIN hok
                    go_upto_region 21 with fail
                    go_region_held3 (fun W => W.cell? ⟨lg, n, none⟩ = some (.pointer (some ⟨pb, 0, none⟩)) ∧ W.cell? ⟨ob, 5, none⟩ = some (.bool obb))
                      (first | exact ⟨cld, p5d⟩ | exact ⟨v1, v5⟩)
                      (first | (go_at_call 12; with_reducible refine HF.out.mono ?_; rintro e w7 ⟨rfl, ⟨v1, v5⟩, HK⟩))
                    all_goals
                      go_wp2_with fail
                      go_meet
                      case rel => go_light; exact ⟨m, a7, c7, rfl, hmm, HK⟩
          case rest =>
            as_aux_lemma =>
              clear hEP hro p0 p1 hkd HPT HIN hok cl
              obtain ⟨m', a', c', rfl, hmm, HY⟩ := hcut
              obtain ⟨AL', PB', S', hEP', hpt'⟩ := HY.out
              have cl := hEP'.cl' hn
              have ct := hEP'.ct hn
              obtain ⟨b1, b2, b3, b4, b5⟩ := hEP'.nu n hn
              have hpm := (hEP'.ls n hn).ok.hpm
              have hp4 := (hEP'.ls n hn).ok.h4
              have HP : Hid (Calls Try.prog 13 #[.pointer (some ⟨PB' n, 0, none⟩)] wc fun e w' => e = .returned (.int .i64 ((S' n).pat : Nat)) ∧ wc = w') := patience_any (hEP'.ls n hn)
              have H1 : Hid (∀ q, Calls Try.prog 16 #[.pointer (some ⟨PB' n, 0, none⟩)] (wc.drewN q) fun e w' => e = .returned (.int .u64 ((S' n).seen : Nat)) ∧ w' = wc.drewN q) := fun q => (seen_any (w := wc.drewN q) ((hEP'.ls n hn).later rfl)).mono fun e w' ⟨h1, h2⟩ => ⟨h1, h2.symm⟩
              have hsat : satM (S' n).pat 1 = (S' n).pat + 1 := by have := Hm.out; unfold satM; rw [if_neg (by omega)]
              have H2 : Hid (∀ q, Calls Try.prog 17 #[.pointer (some ⟨PB' n, 0, none⟩)] (wc.drewN q) fun e w' => e = .returned (.int .i64 ((S' n).pat + 1 : Nat)) ∧ w' = wc.drewN q) := fun q => (span_any (w := wc.drewN q) ((hEP'.ls n hn).later rfl)).mono fun e w' ⟨h1, h2⟩ => ⟨by rw [h1, hsat], h2.symm⟩
              have H3 : Hid (∀ q, Calls Try.prog 11 #[.pointer (some ⟨PB' n, 0, none⟩)] (wc.drewN q) fun e w' => e = .returned (.int .i64 ((S' n).left : Nat)) ∧ w' = wc.drewN q) := fun q => (left_any (w := wc.drewN q) ((hEP'.ls n hn).later rfl)).mono fun e w' ⟨h1, h2⟩ => ⟨h1, h2.symm⟩
              have HKK : Hid (∀ q, ∃ AL PB S, EP W0 (wc.drewN q) lg lc tg tc c mo (.slice a' m' c') m' AL PB S) := fun q => ⟨AL', PB', S', hEP'.drewN q⟩
              generalize (S' n).seen = sx at *
              generalize (S' n).left = lf at *
              obtain ⟨p2, hp2⟩ : ∃ p2, (S' n).pat = p2 := ⟨_, rfl⟩
              rw [hp2] at HP H2 hpt' hpm hp4
              obtain ⟨p3, hp3, hp3b⟩ : ∃ y : Nat, (p2 : Int) + 1 = (y : Int) ∧ y = p2 + 1 := ⟨p2 + 1, by omega, rfl⟩
              rw [← hp3b] at H2
              have hmo := Hm.out
              have wp3 : IntKind.i64.wrap (p3 : Int) = (p3 : Int) := by rw [IntKind.wrap_i64]; omega
              obtain ⟨mc, hmc, hmc2⟩ : ∃ y : Nat, (mo : Int) + (c : Int) = (y : Int) ∧ y = mo + c := ⟨mo + c, by omega, rfl⟩
              have wmc : IntKind.i64.wrap (mc : Int) = (mc : Int) := by rw [IntKind.wrap_i64]; omega
              have t1 : ¬ (p2 : Int) < (pt : Int) := by omega
              have t2 : ¬ (p2 : Int) < 4 := by omega
              have t3 : ¬ (p2 : Int) > (mo : Int) := by omega
              have t4 : ((sx : Int) != (sx : Int)) = false := by simp
              have t5 : ((p3 : Int) != (p3 : Int)) = false := by simp
              have t6 : ¬ (lf : Int) < 0 := by omega
              have t7 : ¬ (lf : Int) > (mc : Int) := by omega
              have u1 : decide ((p2 : Int) < (pt : Int)) = false := by simp; omega
              have u2 : decide ((p2 : Int) < 4) = false := by simp; omega
              have u3 : decide ((p2 : Int) > (mo : Int)) = false := by simp; omega
              have u6 : decide ((lf : Int) < 0) = false := by simp
              have u7 : decide ((lf : Int) > (mc : Int)) = false := by simp; omega
              have y1 : decide (p2 < pt) = false := by simp; omega
              have y2 : decide (p2 < 4) = false := by simp; omega
              have y3 : decide (mo < p2) = false := by simp; omega
              have y7 : decide (mc < lf) = false := by simp; omega
              have r1 : ∀ w, (binOp .lss 3 (.int .i64 (p2 : Nat)) (.int .i64 (pt : Nat))).run Try.prog w = .ok (.bool false) w := fun w => by go_simp
              have r2 : ∀ w, (binOp .lss 3 (.int .i64 (p2 : Nat)) (.int .i64 4)).run Try.prog w = .ok (.bool false) w := fun w => by go_simp
              have r3 : ∀ w, (binOp .gtr 3 (.int .i64 (p2 : Nat)) (.int .i64 (mo : Nat))).run Try.prog w = .ok (.bool false) w := fun w => by go_simp
              have r6 : ∀ w, (binOp .lss 3 (.int .i64 (lf : Nat)) (.int .i64 0)).run Try.prog w = .ok (.bool false) w := fun w => by go_simp
              have hfin : Hid (k + 1 ≤ 3000 ∧ m' ≤ k + 1) := ⟨HK1.out.1, hmm⟩
              generalize PB' n = pb' at *
              clear hEP' HY hpm hp4 b1 b2 b3 b4 b5 hsat hp2 hp3b hmo hmc2 hpt' hc9 hmm
              go_upto_region 35 with (go_at_call 13; refine HP.out.mono ?_; rintro e w7 ⟨rfl, rfl⟩)
              go_quiet (first
                | exact Calls.quiet_of_same (H1.out _)
                | exact Calls.quiet_of_same (H2.out _)
                | exact Calls.quiet_of_same (H3.out _))
              go_wp2_with fail
              go_roundg (3000 - (k + 1))
              case measure => go_light; exact hme
              case rel => go_light; exact ⟨k + 1, m', a', c', hfin.out.1, hfin.out.2, rfl, rfl, by simp, HKK.out _⟩
        · by_cases hg1 : k < L.length
          · have z1 : (k : Int) < (L.length : Int) := by omega
            have z2 : ¬ (k : Int) < 3000 := by omega
            have HE : Hid (Calls Try.prog 7 #[] wr fun e w' => e = .returned (.bool true) ∧ Hid (Below sb w w')) := HEND.out wr hbx
            clear HX hbx hgo hk hmk x0 x1 x2 x3
            go_wp2_with (go_at_call 7; refine HE.out.mono ?_; rintro e w6 ⟨rfl, HK⟩)
            go_ret
            rw [Hsb.out]
            exact ⟨rfl, HK.out⟩
          · have z1 : ¬ (k : Int) < (L.length : Int) := by omega
            have HE : Hid (Calls Try.prog 7 #[] wr fun e w' => e = .returned (.bool true) ∧ Hid (Below sb w w')) := HEND.out wr hbx
            clear HX hbx hgo hk hmk x0 x1 x2 x3
            go_wp2_with (go_at_call 7; refine HE.out.mono ?_; rintro e w6 ⟨rfl, HK⟩)
            go_ret
            rw [Hsb.out]
            exact ⟨rfl, HK.out⟩
end Go.Proofs.Ytcbebepngencjaa

/- What the laws of lease are handed, read out of memory. -/
namespace Go.Proofs.Ytcbebepngencjaa
open Go.ChangeShapes Go.WideShapes Go.ChangeAt Go.RowKit Go.Deep Go.Joins
set_option maxRecDepth 100000

theorem cellsI : Try.prog.cellsOf 3 = 1 := by kernel_rfl
theorem cellsU : Try.prog.cellsOf 29 = 1 := by kernel_rfl
theorem cellsB : Try.prog.cellsOf 4 = 1 := by kernel_rfl
theorem cellsOp : Try.prog.cellsOf 32 = 9 := by kernel_rfl
theorem cellsOps : Try.prog.cellsOf 22 = 1 := by kernel_rfl
theorem add_at (b o : Nat) (r : Nat) : (⟨b, o, none⟩ : Addr).add r = ⟨b, o + r, none⟩ := by simp [Addr.add]
theorem u64_of {n : Int} (h : (Lit.int .u64 n).wf = true) : ∃ m : Nat, n = (m : Int) ∧ m < 18446744073709551616 := by
  have := bounds_u64 h
  exact ⟨n.toNat, by omega, by omega⟩
theorem i64_of {n : Int} (h : (Lit.int .i64 n).wf = true) : n ≤ 9223372036854775807 := by
  have := bounds_i64 h
  omega
theorem cells9_of {w : World} {a : Addr} {cs : List Value} (h : w.cells? 0 a 9 = some cs) : ∃ v0 v1 v2 v3 v4 v5 v6 v7 v8, cs = [v0, v1, v2, v3, v4, v5, v6, v7, v8] ∧ w.cell? (a.add 0) = some v0 ∧ w.cell? (a.add 1) = some v1 ∧ w.cell? (a.add 2) = some v2 ∧ w.cell? (a.add 3) = some v3 ∧ w.cell? (a.add 4) = some v4 ∧ w.cell? (a.add 5) = some v5 ∧ w.cell? (a.add 6) = some v6 ∧ w.cell? (a.add 7) = some v7 ∧ w.cell? (a.add 8) = some v8 := by
  obtain ⟨_, hl, hc⟩ := World.cells?_some h
  match cs, hl with
  | [v0, v1, v2, v3, v4, v5, v6, v7, v8], _ => exact ⟨v0, v1, v2, v3, v4, v5, v6, v7, v8, rfl, hc 0 (by decide), hc 1 (by decide), hc 2 (by decide), hc 3 (by decide), hc 4 (by decide), hc 5 (by decide), hc 6 (by decide), hc 7 (by decide), hc 8 (by decide)⟩
theorem open_lops {H : Type} {enc : TypeId × Value → H} {W : World} {fuel : Nat} {v : Value} {y : DataW H × List MemPlace} (h : DataW.trod enc Try.prog W 0 (fun _ => true) true fuel 22 [v] = some y) :
    ∃ (a : Option Addr) (c : Nat) (l : List LOp), v = .slice a l.length c ∧ LOpsIn W a l := by
  rcases open_slice Try.underlying22 h with ⟨hcs, _⟩ | ⟨a, len, cap, m, n, D, Pl, hcs, _, hl, _, hm, hx, hel⟩
  · exact ⟨none, 0, [], by simpa using hcs, fun i d ho => by simp at ho⟩
  · simp only [if_true] at hm
    subst hm
    obtain ⟨b, o, sp⟩ := a
    have hsp : 0 < len → sp = none := fun h0 => by
      obtain ⟨cs', hc, _⟩ := hel 0 (by omega)
      rw [cellsOp] at hc
      obtain ⟨v0, v1, v2, v3, v4, v5, v6, v7, v8, rfl, h0, _⟩ := cells9_of hc
      simpa [Addr.add] using World.cell?_spot h0
    have hall : ∀ i, ∃ q : LOp, i < len → (q.Ok ∧ ∀ j, j < 9 → W.cell? ⟨b, o + i * 9 + j, none⟩ = some (lopCell q j)) := fun i => by
      by_cases hi : i < len
      · obtain rfl := hsp (by omega)
        obtain ⟨cs', hc, ht⟩ := hel i (by omega)
        rw [cellsOp, add_at] at hc
        obtain ⟨v0, v1, v2, v3, v4, v5, v6, v7, v8, rfl, h0, h1, h2, h3, h4, h5, h6, h7, h8⟩ := cells9_of hc
        obtain ⟨xs, m, _, hx, _, hlen, hfs⟩ := DataW.trod_struct Try.underlying32 ht
        obtain ⟨y0, y1, y2, y3, y4, y5, y6, y7, y8, rfl⟩ : ∃ y0 y1 y2 y3 y4 y5 y6 y7 y8, xs = [y0, y1, y2, y3, y4, y5, y6, y7, y8] := by
          match xs, hlen with
          | [a0, a1, a2, a3, a4, a5, a6, a7, a8], _ => exact ⟨a0, a1, a2, a3, a4, a5, a6, a7, a8, rfl⟩
        have f0 := hfs 0 _ rfl
        have f1 := hfs 1 _ rfl
        have f2 := hfs 2 _ rfl
        have f3 := hfs 3 _ rfl
        have f4 := hfs 4 _ rfl
        have f5 := hfs 5 _ rfl
        have f6 := hfs 6 _ rfl
        have f7 := hfs 7 _ rfl
        have f8 := hfs 8 _ rfl
        simp [cellsI, cellsU, cellsB] at f0 f1 f2 f3 f4 f5 f6 f7 f8
        obtain ⟨k0, e0, _, _⟩ := DataW.trod_int Try.underlying3 f0
        obtain rfl : v0 = .int .i64 k0 := by simpa using e0
        obtain ⟨k1, e1, _, _⟩ := DataW.trod_int Try.underlying3 f1
        obtain rfl : v1 = .int .i64 k1 := by simpa using e1
        obtain ⟨n2, e2, _, wf2⟩ := DataW.trod_int Try.underlying29 f2
        obtain ⟨k2, hk2, w2⟩ := u64_of wf2
        obtain rfl : v2 = .int .u64 (k2 : Nat) := by rw [hk2] at e2; simpa using e2
        obtain ⟨k3, e3, _, _⟩ := DataW.trod_int Try.underlying3 f3
        obtain rfl : v3 = .int .i64 k3 := by simpa using e3
        obtain ⟨k4, e4, _⟩ := DataW.trod_bool Try.underlying4 f4
        obtain rfl : v4 = .bool k4 := by simpa using e4
        obtain ⟨k5, e5, _⟩ := DataW.trod_bool Try.underlying4 f5
        obtain rfl : v5 = .bool k5 := by simpa using e5
        obtain ⟨k6, e6, _, _⟩ := DataW.trod_int Try.underlying3 f6
        obtain rfl : v6 = .int .i64 k6 := by simpa using e6
        obtain ⟨k7, e7, _, wf7⟩ := DataW.trod_int Try.underlying3 f7
        obtain rfl : v7 = .int .i64 k7 := by simpa using e7
        have w7 := i64_of wf7
        obtain ⟨k8, e8, _, wf8⟩ := DataW.trod_int Try.underlying3 f8
        obtain rfl : v8 = .int .i64 k8 := by simpa using e8
        have w8 := i64_of wf8
        rw [add_at] at h0 h1 h2 h3 h4 h5 h6 h7 h8
        refine ⟨⟨k0, k1, k2, k3, k4, k5, k6, k7, k8⟩, fun _ => ⟨⟨w2, w7, w8⟩, fun j hj => ?_⟩⟩
        match j, hj with
        | 0, _ => exact h0
        | 1, _ => exact h1
        | 2, _ => exact h2
        | 3, _ => exact h3
        | 4, _ => exact h4
        | 5, _ => exact h5
        | 6, _ => exact h6
        | 7, _ => exact h7
        | 8, _ => exact h8
      · exact ⟨⟨0, 0, 0, 0, false, false, 0, 0, 0⟩, fun h => absurd h hi⟩
    obtain ⟨Q, hQ⟩ := Classical.axiomOfChoice hall
    have hlen : ((List.range len).map Q).length = len := by simp
    refine ⟨some ⟨b, o, sp⟩, m, (List.range len).map Q, by rw [hlen]; simpa using hcs, fun i d hq => ?_⟩
    have hi : i < len := by have := (List.getElem?_eq_some_iff.1 hq).1; rwa [hlen] at this
    rw [List.getElem?_map, List.getElem?_range hi] at hq
    obtain rfl : Q i = d := Option.some.inj hq
    obtain rfl := hsp (by omega)
    exact ⟨(hQ i hi).1, b, o, rfl, (hQ i hi).2⟩
end Go.Proofs.Ytcbebepngencjaa
