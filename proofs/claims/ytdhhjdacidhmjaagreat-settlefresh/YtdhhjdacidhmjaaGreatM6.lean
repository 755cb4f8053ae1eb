/- Own texts, joined: ST13, ST14, ST15, ST16, ST17, SE2, SE3, ST18. -/
import Derived.Test.YtdhhjdacidhmjaaGreatM4
import Derived.Test.YtdhhjdacidhmjaaGreatM5

/- Package settle: the law's helpers: placeOf. -/
namespace Go.Proofs.YtdhhjdacidhmjaaGreat
open Go.RowKit
set_option maxRecDepth 100000
set_option maxRecDepth 100000
/-- The place of k in a row of n numbers. -/
def placeM (f : Nat → Nat) (n : Nat) (k : Int) : Option Nat := (List.range n).find? (fun j => (f j : Int) == k)
theorem placeM_skip (f : Nat → Nat) (k : Int) (j : Nat) (h : placeM f j k = none) (hq : (f j : Int) ≠ k) : placeM f (j + 1) k = none := by
  unfold placeM at *
  rw [List.range_succ, List.find?_append, h]
  simp [hq]
theorem placeM_hit (f : Nat → Nat) (n : Nat) (k : Int) (j : Nat) (hj : j < n) (h : placeM f j k = none) (hq : (f j : Int) = k) : placeM f n k = some j := by
  unfold placeM at *
  obtain ⟨d, rfl⟩ : ∃ d, n = j + (d + 1) := ⟨n - j - 1, by omega⟩
  rw [List.range_add, List.find?_append, h, List.range_succ_eq_map]
  simp [hq]
def placeV (o : Option Nat) : Int := match o with | some j => (j : Int) | none => -1
end Go.Proofs.YtdhhjdacidhmjaaGreat

/- Package settle: the law's helpers: wakes. -/
namespace Go.Proofs.YtdhhjdacidhmjaaGreat
open Go.RowKit
set_option maxRecDepth 100000
set_option maxRecDepth 100000
theorem ChR.base {w0 w w' : World} {lo hi X : Nat} {O O' : Nat → Nat} (h0 : w0.Since w0.heap.size w) (hO : ∀ k, k < w0.heap.size → O k = X) (hx : X < lo ∨ hi ≤ X) (h : ChR lo hi O O' w w') : w0.Since w0.heap.size w' ∧ ∀ k, k < w0.heap.size → O' k = X :=
  ⟨⟨h.os.trans h0.os, h.tape.trans h0.tape, h.output.trans h0.output, Nat.le_trans h0.size h.size, fun k hk => (h.block k (Nat.lt_of_lt_of_le hk h0.size) (by rw [hO k hk]; exact hx)).trans (h0.block k hk)⟩, fun k hk => (h.col k (Nat.lt_of_lt_of_le hk h0.size)).trans (hO k hk)⟩
def entW : Ent := ⟨1, 4, [97, 110, 110], 9⟩
theorem entW_q (w : World) : QIn (w.alloc (.cells #[.int .i64 1, .int .u64 4, .string ⟨#[97, 110, 110]⟩, .int .u64 9] 82)) (some ⟨w.heap.size, 0, none⟩) [entW] := by
  refine ⟨fun j e he => ?_, fun e he => ?_⟩
  · have hj : j < 1 := (List.getElem?_eq_some_iff.1 he).1
    obtain rfl : j = 0 := by omega
    obtain rfl : entW = e := Option.some.inj he
    refine ⟨_, 0, rfl, fun i v hv => ?_, by simp⟩
    have hi : i < 4 := (List.getElem?_eq_some_iff.1 hv).1
    rw [← hv]
    match i, hi with
    | 0, _ => simp [entL, entW]
    | 1, _ => simp [entL, entW]
    | 2, _ => simp [entL, entW, strL]; rfl
    | 3, _ => simp [entL, entW]
  · obtain rfl := List.mem_singleton.1 he
    exact ⟨by decide, by decide⟩
/-- What the law shows it first, and what is told then. -/
theorem wakes_ms : ∃ f, (lookM (newS 1 0 3 2 3 4) [entW]).du = some f ∧ (tkN (lookM (newS 1 0 3 2 3 4) [entW]) f (lookM (newS 1 0 3 2 3 4) [entW]).n).2 = [telG 1 0 entW (copN 1 3 0 : Nat)] ∧ wantsM (tkN (lookM (newS 1 0 3 2 3 4) [entW]) f (lookM (newS 1 0 3 2 3 4) [entW]).n).1 1 4 = true := ⟨_, rfl, rfl, rfl⟩
theorem li_cell {O : Nat → Nat} {c t sz n : Nat} {w : World} {a : Option Addr} {cap : Nat} {f : Nat → Value} (h : Li O c w t sz (.slice a n cap) n f) (hn : 0 < n) : ∃ b, a = some ⟨b, 0, none⟩ ∧ ∀ j, j < n * sz → w.cell? ⟨b, j, none⟩ = some (f j) := by
  obtain ⟨b, cp, F, hv, h1, h2, h3, h4⟩ := h.at' hn
  injection hv with ha _ _
  refine ⟨b, ha, fun j hj => ?_⟩
  rw [h3.1.cell (Nat.lt_of_lt_of_le hj (Nat.mul_le_mul_right _ h1)), h4 j hj]
set_option maxHeartbeats 4000000 in
theorem wakesS_any (w : World) : Calls Tryz.prog 12 #[] w fun e w' => e = .returned (.bool true) ∧ w.Since w.heap.size w' := by
  have HC : Hid (Calls Tryz.prog 6 #[.int .i64 2, .int .i64 1, .int .i64 1, .int .i64 3] w fun e w1 => e = .returned (.agg (cfgA 3 2 3 4)) ∧ Hid (Calls Tryz.prog 8 #[.agg (cfgA 3 2 3 4), .int .i64 1, .int .i64 0] w1 fun e w2 => ∃ sb, e = .returned (.pointer (some ⟨sb, 0, none⟩)) ∧
      ∃ qb W3, Hid (w2.heap.size = qb) ∧ Hid (w2.alloc (.cells #[.int .i64 1, .int .u64 4, .string ⟨#[97, 110, 110]⟩, .int .u64 9] 82) = W3) ∧ Hid (Calls Tryz.prog 17 #[.pointer (some ⟨sb, 0, none⟩), .agg #[.int .i64 0, .slice none 0 0, .slice (some ⟨qb, 0, none⟩) 1 1, .slice none 0 0, .slice none 0 0, .slice none 0 0]] W3 fun e w4 => e = .returned (.tuple #[]) ∧
      Hid (Calls Tryz.prog 26 #[.pointer (some ⟨sb, 0, none⟩)] w4 fun e w5 => ∃ b c, e = .returned (.slice (some ⟨b, 0, none⟩) 1 c) ∧ w5.cell? ⟨b, 0, none⟩ = some (.int .i64 8) ∧ w5.cell? ⟨b, 1, none⟩ = some (.int .i64 1) ∧ w5.cell? ⟨b, 11, none⟩ = some (.int .i64 1) ∧ w5.cell? ⟨b, 12, none⟩ = some (.int .u64 4) ∧
      Hid (Calls Tryz.prog 30 #[.pointer (some ⟨sb, 0, none⟩), .int .i64 1, .int .u64 4] w5 fun e w6 => e = .returned (.bool true) ∧ w.Since w.heap.size w6))))) := by
    refine (config_any 2 1 1 3 w).mono fun e w1 ⟨nodes, n, c, m, he, hh⟩ => ?_
    obtain ⟨⟨e1, e2, e3, e4⟩, hb, hg, s1⟩ := hh.out
    obtain rfl : nodes = 3 := e1
    obtain rfl : n = 2 := e2
    obtain rfl : m = 4 := e3
    obtain rfl : c = 3 := e4
    refine ⟨he, ?_⟩
    refine (newS_any (q := 0) (own := 0) hg (by decide) (by decide) (by decide) (by decide) (by decide) 1 (fun _ => 1000) _ _ _ _ _).mono fun e w2 ⟨sb, he2, ⟨O, p, h2, hp, hO⟩, s2⟩ => ?_
    have s3 : w2.Since w2.heap.size (w2.alloc (.cells #[.int .i64 1, .int .u64 4, .string ⟨#[97, 110, 110]⟩, .int .u64 9] 82)) := (World.Since.refl _ _).alloc (Nat.le_refl _) _
    refine ⟨sb, he2, _, _, rfl, rfl, ?_⟩
    have z1 := s1.size
    have hO' : ∀ k, k < w.heap.size → O k = 1000 := fun k hk => hO k (by omega)
    have b3 := (s1.trans (since_mono s2 s1.size)).trans (since_mono s3 (Nat.le_trans s1.size s2.size))
    rw [← hp]
    refine (look_any (h2.since s3) rfl (qc := 1) (entW_q w2) (by decide) _ _ _ _ _).mono fun e w4 ⟨he4, O4, ⟨b, V, h4⟩, k4⟩ => ⟨he4, ?_⟩
    obtain ⟨b4, o4⟩ := ChR.base b3 hO' (by decide) k4
    obtain ⟨f, hf, hms, hwa⟩ := wakes_ms
    refine (tick_due h4 hf).mono fun e w5 ⟨a, c, he5, O5, h5, hK, hl, k5⟩ => ?_
    obtain ⟨b5, o5⟩ := ChR.base b4 o4 (by decide) k5
    rw [hms] at hl he5
    obtain ⟨bb, rfl, hcs⟩ := li_cell hl (by decide)
    refine ⟨bb, c, he5, hcs 0 (by decide), hcs 1 (by decide), hcs 11 (by decide), hcs 12 (by decide), ?_⟩
    refine (wants_any h5 1 4).mono fun e w6 h6 => ?_
    obtain ⟨h6, rfl⟩ := h6
    rw [hwa] at h6
    exact ⟨h6, b5⟩
  go_enter Tryz.func12, Tryz.ntmps12
  go_wp2_with (first
    | (go_at_call 6; refine HC.out.mono ?_; rintro e w1 ⟨rfl, HN⟩)
    | (go_at_call 8; refine HN.out.mono ?_; rintro e w2 ⟨sb, rfl, qb, W3, HQB, HW3, HL⟩)
    | (rw [HW3.out, HQB.out]; clear HW3)
    | (go_at_call 17; refine HL.out.mono ?_; rintro e w4 ⟨rfl, HT⟩)
    | (go_at_call 26; refine HT.out.mono ?_; rintro e w5 ⟨b, c, rfl, c0, c1, c11, c12, HWA⟩)
    | (go_at_call 30; refine HWA.out.mono ?_; rintro e w6 ⟨rfl, HS⟩))
  go_ret
  exact ⟨rfl, HS⟩
end Go.Proofs.YtdhhjdacidhmjaaGreat

/- Package settle: the law's helpers: without. -/
namespace Go.Proofs.YtdhhjdacidhmjaaGreat
open Go.RowKit
set_option maxRecDepth 100000
set_option maxRecDepth 100000
/-- Entries as cells. -/
def enF (l : List Ent) (j : Nat) : Value := entCell (l.getD (j / 4) ent0) (j % 4)
theorem infoEN : (Tryz.prog.info? 82).map (fun i => (i.zero, i.size, i.bytes)) = some (some (.agg #[.int .i64 0, .int .u64 0, .string ⟨#[]⟩, .int .u64 0]), 4, 40) := by kernel_rfl
theorem enF_app (l : List Ent) (e : Ent) (j : Nat) (hj : j < (l.length + 1) * 4) : (if j < l.length * 4 then enF l j else (entL e).getD (j - l.length * 4) undef) = enF (l ++ [e]) j := by
  unfold enF
  by_cases h : j < l.length * 4
  · rw [if_pos h]
    have : j / 4 < l.length := by omega
    rw [List.getD_eq_getElem?_getD, List.getD_eq_getElem?_getD, List.getElem?_append_left this]
  · rw [if_neg h]
    have h2 : j / 4 = l.length := by omega
    have h5 : (l ++ [e]).getD l.length ent0 = e := by simp [List.getD_eq_getElem?_getD]
    rw [h2, h5]
    have h3 : j - l.length * 4 = j % 4 := by omega
    rw [h3]
    have h4 : j % 4 < 4 := Nat.mod_lt _ (by decide)
    generalize j % 4 = i at *
    match i, h4 with
    | 0, _ => rfl
    | 1, _ => rfl
    | 2, _ => rfl
    | 3, _ => rfl
/-- A list of entries of the law's own. -/
def Qu (O : Nat → Nat) (c : Nat) (w : World) (v : Value) (l : List Ent) : Prop := Li O c w 82 4 v l.length (enF l) ∧ ∀ e ∈ l, e.nu < 18446744073709551616 ∧ e.am < 18446744073709551616
theorem Qu.q {O : Nat → Nat} {c : Nat} {w : World} {a : Option Addr} {cap : Nat} {l : List Ent} (h : Qu O c w (.slice a l.length cap) l) : QIn w a l := by
  refine ⟨fun j e he => ?_, h.2⟩
  have hj : j < l.length := (List.getElem?_eq_some_iff.1 he).1
  obtain ⟨b, cp, F, hv, h1, h2, h3, h4⟩ := h.1.at' (by omega)
  injection hv with ha _ _
  refine ⟨b, 0, ha, fun i v hi => ?_, h3.1.lt⟩
  have hi4 : i < 4 := (List.getElem?_eq_some_iff.1 hi).1
  have hm := Nat.mul_le_mul_right 4 h1
  rw [h3.1.cell (i := 0 + j * 4 + i) (by omega), h4 _ (by omega), ← hi]
  have e1 : (0 + j * 4 + i) / 4 = j := by omega
  have e2 : (0 + j * 4 + i) % 4 = i := by omega
  unfold enF
  rw [e1, e2, List.getD_eq_getElem?_getD, he]
  match i, hi4 with
  | 0, _ => rfl
  | 1, _ => rfl
  | 2, _ => rfl
  | 3, _ => rfl
theorem Qu.nil (O : Nat → Nat) (c : Nat) (w : World) : Qu O c w (.slice none 0 0) [] := ⟨Li.nil _ _ _ _ _ _, fun e he => by cases he⟩
theorem Qu.keep {O O' : Nat → Nat} {c x : Nat} {w w' : World} {v : Value} {l : List Ent} (h : Qu O c w v l) (k : Ch x O O' w w') (hx : c ≠ x) : Qu O' c w' v l := ⟨h.1.keep k hx, h.2⟩
theorem Qu.keepR {O O' : Nat → Nat} {c lo hi : Nat} {w w' : World} {v : Value} {l : List Ent} (h : Qu O c w v l) (k : ChR lo hi O O' w w') (hx : c < lo ∨ hi ≤ c) : Qu O' c w' v l := ⟨h.1.keepR k hx, h.2⟩
theorem entL_one (e : Ent) : ∀ u ∈ entL e, u.oneCell' = true := fun u hu => by
  unfold entL at hu
  simp only [List.mem_cons, List.not_mem_nil, or_false] at hu
  rcases hu with rfl | rfl | rfl | rfl <;> rfl
/-- One entry more. -/
theorem Qu.app {O : Nat → Nat} {c : Nat} {w : World} {a : Option Addr} {cap : Nat} {l : List Ent} (h : Qu O c w (.slice a l.length cap) l) (e : Ent) (he : e.nu < 18446744073709551616 ∧ e.am < 18446744073709551616) (hl : l.length ≤ 3518437208881) :
    ∃ a' c' w', (Builtin.append_ #[58, 58] 58 #[.slice a l.length cap, .slice (some ⟨w.heap.size, 0, none⟩) 1 1]).run Tryz.prog (w.alloc (.cells (entL e).toArray 82)) = .ok (.slice a' (l.length + 1) c') w' ∧ ∃ O', Qu O' c w' (.slice a' (l.length + 1) c') (l ++ [e]) ∧ Ch c O O' w w' := by
  obtain ⟨v', w', e1, k, hl'⟩ := h.1.app (P := Tryz.prog) Tryz.underlying58 infoEN rfl (by decide) (entL e) rfl (entL_one e) (by omega) (by omega)
  obtain ⟨a', c', rfl⟩ := hl'.form
  refine ⟨a', c', w', e1, _, ⟨?_, fun x hx => ?_⟩, k⟩
  · rw [List.length_append]
    exact hl'.congr fun j hj => enF_app l e j hj
  · rcases List.mem_append.1 hx with hx | hx
    · exact h.2 x hx
    · rw [List.mem_singleton.1 hx]; exact he
theorem woM_skip (l : List Ent) (q : Int) (k j : Nat) (e : Ent) (he : l[j]? = some e) (hk : (!(e.p == q) || decide (k < e.nu)) = false) : woM (l.take (j + 1)) q k = woM (l.take j) q k := by
  unfold woM
  rw [List.take_add_one, he, List.filter_append]
  show _ ++ List.filter _ [e] = _
  rw [List.filter_cons_of_neg (by rw [hk]; simp)]
  simp
theorem woM_take (l : List Ent) (q : Int) (k j : Nat) (e : Ent) (he : l[j]? = some e) (hk : (!(e.p == q) || decide (k < e.nu)) = true) : woM (l.take (j + 1)) q k = woM (l.take j) q k ++ [e] := by
  unfold woM
  rw [List.take_add_one, he, List.filter_append]
  show _ ++ List.filter _ [e] = _
  rw [List.filter_cons_of_pos (by rw [hk])]
  rfl
end Go.Proofs.YtdhhjdacidhmjaaGreat

/- Package settle: the law's helpers: laid. -/
namespace Go.Proofs.YtdhhjdacidhmjaaGreat
open Go.RowKit
set_option maxRecDepth 100000
set_option maxRecDepth 100000
theorem results_cell_row_tmp2 {P : Program} {fn : Func} {p u u2 : Tmp} {ty : TypeId} (h : fn.results = #[.cell p ty, .tmp u, .tmp u2]) (tmps : Array Value) (w : World) (g : Nat) (t : TypeId) (cs : Array Value) (fr : Nat × Nat) (d : TypeDesc)
    (hp : tmps.getD p undef = .pointer (some ⟨g, 0, none⟩)) (hg : w.heap[g]? = some (.cells cs t fr))
    (hu : P.underlying ty = some d) (hd : (match d with | .struct _ | .array _ _ => true | _ => false) = true) (hi : (P.info? ty).map (·.size) = some cs.size) (v v2 : Value) (hv : tmps.getD u undef = v) (hv2 : tmps.getD u2 undef = v2) :
    (results fn tmps).run P w = .ok (.tuple #[.agg cs, v, v2]) w := by
  have e : (results fn tmps).run P w = ((asAddr (tmps.getD p undef)).run P w).andThen fun a w₁ => ((loadVar ty a).run P w₁).andThen fun v w₂ => .ok (.tuple #[v, tmps.getD u undef, tmps.getD u2 undef]) w₂ := by
    simp only [results, h]
    simp [Sem.run_bind, Result.andThen]
  rw [e, hp, hv, hv2]
  simp [asAddr, run_loadVar_row w g t ty cs fr d hg hu hd hi, Result.andThen]
/-- A list of numbers, handed in. -/
def IL (W : World) (a : Option Addr) (l : List Int) : Prop := ∀ i x, l[i]? = some x → ∃ b o, a = some ⟨b, o, none⟩ ∧ W.cell? ⟨b, o + i, none⟩ = some (.int .i64 x) ∧ b < W.heap.size
theorem IL.since {W W' : World} {a : Option Addr} {l : List Int} (h : IL W a l) (s : W.Since W.heap.size W') : IL W' a l := fun i x hx => by
  obtain ⟨b, o, e, hc, hb⟩ := h i x hx
  exact ⟨b, o, e, by rw [World.cell?_of_block (a := ⟨b, o + i, none⟩) (s.block b hb)]; exact hc, Nat.lt_of_lt_of_le hb s.size⟩
/-- What is laid: the entries' peers, their numbers, how many each peer has. -/
def LaidQ (n own : Nat) (l : List Ent) (nx : Nat → Nat) : Prop := (∀ e ∈ l, ∃ i : Nat, i < n ∧ i ≠ own ∧ e.p = (i : Int)) ∧ ∀ i, i < n → Row1 (ofP l i) 0 ∧ nx i = (ofP l i).length
theorem LaidQ.app {n own : Nat} {l : List Ent} {nx : Nat → Nat} (h : LaidQ n own l nx) (k : Nat) (hk : k < n) (ho : k ≠ own) (na : List Nat) (am : Nat) : LaidQ n own (l ++ [⟨(k : Int), nx k + 1, na, am⟩]) (up nx k (nx k + 1)) := by
  refine ⟨fun e he => ?_, fun i hi => ?_⟩
  · rcases List.mem_append.1 he with he | he
    · exact h.1 e he
    · rw [List.mem_singleton.1 he]; exact ⟨k, hk, ho, rfl⟩
  · obtain ⟨h1, h2⟩ := h.2 i hi
    by_cases e : i = k
    · subst e
      have : ofP (l ++ [⟨(i : Int), nx i + 1, na, am⟩]) i = ofP l i ++ [⟨(i : Int), nx i + 1, na, am⟩] := by unfold ofP; rw [List.filter_append]; simp
      rw [this, up_same]
      exact ⟨h1.snoc (by show nx i + 1 = _; rw [h2]; omega), by rw [List.length_append, h2]; rfl⟩
    · have : ofP (l ++ [⟨(k : Int), nx k + 1, na, am⟩]) i = ofP l i := by unfold ofP; rw [List.filter_append]; simp; omega
      rw [this, up_ne _ _ _ e]
      exact ⟨h1, h2⟩
theorem infoU : (Tryz.prog.info? 51).map (fun i => (i.zero, i.size, i.bytes)) = some (some (.int .u64 0), 1, 8) := by kernel_rfl
/-- Where the loop of laid stands. -/
def LdL (w0 : World) (n own nb : Nat) (a : Option Addr) (c K : Nat) (W : World) : Prop := ∃ O l nx, K = l.length ∧ K ≤ 16 ∧ Qu O 1 W (.slice a K c) l ∧ RowC O 2 W nb 51 n (fun i => .int .u64 (nx i : Nat)) ∧ (∀ k, k < w0.heap.size → O k = 0) ∧ w0.Since w0.heap.size W ∧ LaidQ n own l nx
theorem LdL.start {w0 : World} {n own : Nat} : LdL w0 n own w0.heap.size none 0 0 (w0.alloc (.cells (madeCells #[.int .u64 0] n) 51)) := by
  have hr : (w0.alloc (.cells (madeCells #[.int .u64 0] n) 51)).rowIs w0.heap.size 51 n (fun _ => .int .u64 0) := World.rowIs_made w0 _ n _
  exact ⟨fun k => if k < w0.heap.size then 0 else 2, [], fun _ => 0, rfl, by decide, Qu.nil _ _ _, ⟨hr, if_neg (Nat.lt_irrefl _)⟩, fun k hk => if_pos hk, (World.Since.refl _ _).alloc (Nat.le_refl _) _, (by unfold LaidQ; exact ⟨fun e he => (by cases he), fun i _ => ⟨trivial, rfl⟩⟩)⟩
theorem LdL.cnt {w0 W : World} {n own nb c K : Nat} {a : Option Addr} (h : LdL w0 n own nb a c K W) (k : Nat) (hk : k < n) : ∃ x : Nat, W.cell? ⟨nb, k, none⟩ = some (.int .u64 (x : Nat)) ∧ x ≤ 16 ∧ W.frozen? ⟨nb, k, none⟩ = false := by
  obtain ⟨O, l, nx, rfl, h16, _, hr, _, _, hq⟩ := h
  have h2 := (hq.2 k hk).2
  have h3 : (ofP l k).length ≤ l.length := List.length_filter_le _ _
  exact ⟨nx k, hr.1.cell hk, by omega, hr.1.frozen k⟩
/-- An entry more: the peer's number is one on, then it is appended. -/
theorem LdL.step {w0 W : World} {n own nb c K : Nat} {a : Option Addr} (h : LdL w0 n own nb a c K W) (hK : K < 16) (k : Nat) (hk : k < n) (ho : k ≠ own) (x : Nat) (hx : W.cell? ⟨nb, k, none⟩ = some (.int .u64 (x : Nat))) (x1 : Nat) (hx1 : x1 = x + 1) (y z : Nat) (hy : y = 97 + K) (hz : z = 10 + K) :
    ∃ W1 W2 : World, Hid (W.setCell ⟨nb, k, none⟩ (.int .u64 (x1 : Nat)) = W1) ∧ W1.drew.cell? ⟨nb, k, none⟩ = some (.int .u64 (x1 : Nat)) ∧ Hid (W1.drew.alloc (.cells #[.int .u8 (y : Nat)] 5) = W2) ∧ W2.cell? ⟨nb, k, none⟩ = some (.int .u64 (x1 : Nat)) ∧ Hid ((convert 103 9 (.slice (some ⟨W1.drew.heap.size, 0, none⟩) 1 1)).run Tryz.prog W2 = .ok (.string (strL [y])) W2) ∧
      ∃ W3, Hid (W2.alloc (.cells #[.int .i64 (k : Nat), .int .u64 (x1 : Nat), .string (strL [y]), .int .u64 (z : Nat)] 82) = W3) ∧ W3.cell? ⟨nb, k, none⟩ = some (.int .u64 (x1 : Nat)) ∧ ∃ a' c' W4, Hid ((Builtin.append_ #[58, 58] 58 #[.slice a K c, .slice (some ⟨W2.heap.size, 0, none⟩) 1 1]).run Tryz.prog W3 = .ok (.slice a' (K + 1) c') W4) ∧ W4.cell? ⟨nb, k, none⟩ = some (.int .u64 (x1 : Nat)) ∧ Hid (LdL w0 n own nb a' c' (K + 1) W4) := by
  subst hy hz
  obtain ⟨O, l, nx, rfl, h16, hq, hr, hO, hs, hl⟩ := h
  have hxk : x = nx k := by
    have := (hr.1.cell hk).symm.trans hx
    have := Option.some.inj this
    injection this with _ e
    omega
  have hnk : nx k + 1 ≤ 17 := by
    have h2 := (hl.2 k hk).2
    have h3 : (ofP l k).length ≤ l.length := List.length_filter_le _ _
    omega
  have k1 : Ch 2 O O W (W.setCell ⟨nb, k, none⟩ (.int .u64 (x1 : Nat))) := Ch.set hr.2 _ _
  have r1 := (hr.set k (.int .u64 (x1 : Nat)))
  have q1 := hq.keep k1 (by decide)
  obtain ⟨b1, z1⟩ := k1.base hs hO (by decide)
  generalize hW1 : W.setCell ⟨nb, k, none⟩ (.int .u64 (x1 : Nat)) = W1 at *
  have s2 : W1.Since W1.heap.size (W1.drew.alloc (.cells #[.int .u8 (97 + l.length : Nat)] 5)) := (World.Since.refl _ _).drew.alloc (Nat.le_refl _) _
  have k2 : Ch 5 O O W1 (W1.drew.alloc (.cells #[.int .u8 (97 + l.length : Nat)] 5)) := Ch.since s2
  have hcv : (convert 103 9 (.slice (some ⟨W1.drew.heap.size, 0, none⟩) 1 1)).run Tryz.prog (W1.drew.alloc (.cells #[.int .u8 (97 + l.length : Nat)] 5)) = .ok (.string (strL [97 + l.length])) (W1.drew.alloc (.cells #[.int .u8 (97 + l.length : Nat)] 5)) := by
    have := run_convert_bytes_back (P := Tryz.prog) (W1.drew.alloc (.cells #[.int .u8 (97 + l.length : Nat)] 5)) 103 9 5 ⟨W1.drew.heap.size, 0, none⟩ 1 [UInt8.ofNat (97 + l.length)] Tryz.underlying103 Tryz.underlying5 Tryz.underlying9 (fun j hj => by
      have hj0 : j = 0 := by simpa using hj
      subst hj0
      have e : (UInt8.ofNat (97 + l.length)).toNat = 97 + l.length := by rw [UInt8.toNat_ofNat']; omega
      show _ = some (Value.int .u8 ((UInt8.ofNat (97 + l.length)).toNat : Int))
      rw [e]
      exact World.cell?_alloc_at (w := W1.drew) _ _ _ 0 rfl)
    exact this
  have r2 := r1.keep k2 (by decide)
  have q2 := q1.keep k2 (by decide)
  obtain ⟨b2, z2⟩ := k2.base b1 z1 (by decide)
  generalize hW2 : W1.drew.alloc (.cells #[.int .u8 (97 + l.length : Nat)] 5) = W2 at *
  have s3 : W2.Since W2.heap.size (W2.alloc (.cells (entL ⟨(k : Int), x1, [97 + l.length], 10 + l.length⟩).toArray 82)) := (World.Since.refl _ _).alloc (Nat.le_refl _) _
  obtain ⟨a', c', W4, e4, O4, q4, k4⟩ := q2.app ⟨(k : Int), x1, [97 + l.length], 10 + l.length⟩ ⟨by show x1 < _; omega, by show 10 + l.length < _; omega⟩ (by omega)
  have r4 := r2.keep k4 (by decide)
  obtain ⟨b4, z4⟩ := k4.base b2 z2 (by decide)
  have hc : ∀ (W' : World) O', RowC O' 2 W' nb 51 n (fun j => if j = k then .int .u64 (x1 : Nat) else .int .u64 (nx j : Nat)) → W'.cell? ⟨nb, k, none⟩ = some (.int .u64 (x1 : Nat)) := fun W' O' h => by
    rw [h.1.cell hk, if_pos rfl]
  refine ⟨W1, W2, rfl, ?_, hW2, hc _ _ r2, hcv, _, rfl, hc _ O (r2.keep (x := 5) (Ch.since s3) (by decide)), a', c', W4, e4, hc _ _ r4, O4, _, up nx k x1, ?_, ?_, q4, ?_, z4, b4, ?_⟩
  · exact hc _ O (r1.keep (x := 5) (Ch.since ((World.Since.refl _ _).drew)) (by decide))
  · rw [List.length_append]; rfl
  · omega
  · refine ⟨r4.1.congr fun j hj => ?_, r4.2⟩
    show (if j = k then Value.int .u64 (x1 : Nat) else .int .u64 (nx j : Nat)) = .int .u64 ((if j = k then x1 else nx j : Nat) : Nat)
    split <;> rfl
  · have := hl.app k hk ho [97 + l.length] (10 + l.length)
    rw [hx1, hxk]
    exact this
theorem LdL.drewN {w0 W : World} {n own nb c K : Nat} {a : Option Addr} (h : LdL w0 n own nb a c K W) (q : Nat) : LdL w0 n own nb a c K (W.drewN q) := by
  obtain ⟨O, l, nx, h1, h16, hq, hr, hO, hs, hl⟩ := h
  have k : Ch 5 O O W (W.drewN q) := Ch.since ⟨rfl, rfl, rfl, Nat.le_refl _, fun _ _ => rfl⟩
  exact ⟨O, l, nx, h1, h16, hq.keep k (by decide), hr.keep k (by decide), hO, (k.base hs hO (by decide)).1, hl⟩
/-- What laid leaves. -/
def LaidE (w w' : World) (nodes n c m own K qc : Nat) (a : Option Addr) : Prop := (1 ≤ nodes ∧ nodes ≤ 9 ∧ 1 ≤ n ∧ n ≤ 8 ∧ 1 ≤ c ∧ c ≤ 7 ∧ 1 ≤ m ∧ m ≤ 64) ∧ (∀ i : Nat, i < n → goodM i nodes c) ∧ own < n ∧ ∃ O l nx, K = l.length ∧ K ≤ 16 ∧ Qu O 1 w' (.slice a K qc) l ∧ LaidQ n own l nx ∧ (∀ k, k < w.heap.size → O k = 0) ∧ w.Since w.heap.size w'
end Go.Proofs.YtdhhjdacidhmjaaGreat

/- Package settle: what the law of what is sent keeps in memory. -/
namespace Go.Proofs.YtdhhjdacidhmjaaGreat
open Go.RowKit
set_option maxRecDepth 100000
set_option maxRecDepth 100000
theorem Li.paint {O O' : Nat → Nat} {c c' : Nat} {w : World} {t sz n : Nat} {v : Value} {f : Nat → Value} (h : Li O c w t sz v n f) (hc : ∀ k, v.ownBlock = some k → O' k = c') : Li O' c' w t sz v n f := ⟨h.1, hc⟩
/-- What of a Settle no step of the laws turns. -/
structure Fx (nodes n own m c : Nat) (d : Sd) : Prop where
  node : d.node = 0
  shard : d.shard = (own : Nat)
  hn : d.n = n
  hown : d.own = own
  hm : d.m = m
  hc : d.c = c
  hcp : d.cp = fun i j => ((copN i nodes j : Nat) : Int)
theorem Fx.new (nodes n own m c : Nat) : Fx nodes n own m c (newS 0 own nodes n c m) := ⟨rfl, rfl, rfl, rfl, rfl, rfl, rfl⟩
theorem Fx.look {nodes n own m c : Nat} {d : Sd} (h : Fx nodes n own m c d) (l : List Ent) : Fx nodes n own m c (lookM d l) ∧ (lookM d l).du = some (shF (lookM d l) l) := by
  obtain ⟨k, k2⟩ := lkN_like d l d.n
  refine ⟨⟨k.node.trans h.node, k.shard.trans h.shard, k.n.trans h.hn, k.own.trans h.hown, k.m.trans h.hm, k.c.trans h.hc, k.cp.trans h.hcp⟩, ?_⟩
  rw [show (lookM d l).du = some (shF d l) from k2]
  congr 1
  funext i
  unfold shF
  rw [show (lookM d l).own = d.own from k.own]
theorem Fx.tick {nodes n own m c : Nat} {d : Sd} (h : Fx nodes n own m c d) (f : Nat → Option Du) (k : Nat) : Fx nodes n own m c (tkD d f k) := ⟨h.node, h.shard, h.hn, h.hown, h.hm, h.hc, h.hcp⟩
theorem msF_range {ms : List Mg} {O : Nat → Nat} {c cc K : Nat} {w : World} {a : Option Addr} (h : Li O c w 108 22 (.slice a K cc) K (msF ms)) (hK : ms.length = K) (j : Nat) (hj : j < K) : ∃ b, a = some ⟨b, 0, none⟩ ∧ w.rangeAt b (j * 22) (mgL (ms.getD j mg0) none 0) := by
  obtain ⟨b, rfl, hc⟩ := li_cell h (by omega)
  refine ⟨b, rfl, fun i v hv => ?_⟩
  have hi : i < 22 := by have := (List.getElem?_eq_some_iff.1 hv).1; rw [mgL_len] at this; exact this
  rw [hc _ (by omega), ← hv]
  unfold msF
  have e1 : (j * 22 + i) / 22 = j := by omega
  have e2 : (j * 22 + i) % 22 = i := by omega
  rw [e1, e2]
  have hi2 : i < 22 := hi
  unfold mgL
  match i, hi2 with
  | 0, _ => rfl
  | 1, _ => rfl
  | 2, _ => rfl
  | 3, _ => rfl
  | 4, _ => rfl
  | 5, _ => rfl
  | 6, _ => rfl
  | 7, _ => rfl
  | 8, _ => rfl
  | 9, _ => rfl
  | 10, _ => rfl
  | 11, _ => rfl
  | 12, _ => rfl
  | 13, _ => rfl
  | 14, _ => rfl
  | 15, _ => rfl
  | 16, _ => rfl
  | 17, _ => rfl
  | 18, _ => rfl
  | 19, _ => rfl
  | 20, _ => rfl
  | 21, _ => rfl
/-- Where all lies that a law of settle keeps: the configuration, the queue, the Settle. -/
structure SB (w0 : World) (nodes n own m c : Nat) (CF : Array Value) (vb sb : Nat) (O : Nat → Nat) (w : World) (p : Sp) (d : Sd) (qv : Value) (l : List Ent) : Prop where
  s : SIs O 0 w p d
  psb : p.sb = sb
  fx : Fx nodes n own m c d
  cf : w.rangeAt vb 0 CF.toList ∧ O vb = 41 ∧ vb < w.heap.size
  qu : Qu O 42 w qv l
  base : ∀ k, k < w0.heap.size → O k = 1000
  since : w0.Since w0.heap.size w
section
variable {w0 : World} {nodes n own m c : Nat} {CF : Array Value} {vb sb : Nat} {O O' : Nat → Nat} {w w' : World} {p : Sp} {d : Sd} {qv : Value} {l : List Ent} {x : Nat}
theorem rangeAt_on {w w' : World} {b o : Nat} {vs : List Value} (h : w.rangeAt b o vs) (e : w'.heap[b]? = w.heap[b]?) : w'.rangeAt b o vs := fun i v hv => by
  rw [World.cell?_of_block (a := ⟨b, o + i, none⟩) e]; exact h i v hv
theorem SB.keep (h : SB w0 nodes n own m c CF vb sb O w p d qv l) (k : Ch x O O' w w') (h1 : 43 ≤ x) (h2 : x < 1000) : SB w0 nodes n own m c CF vb sb O' w' p d qv l :=
  ⟨h.s.keepR (ChR.of k (Nat.le_refl x) (Nat.lt_succ_self x)) (.inl (by omega)), h.psb, h.fx, ⟨rangeAt_on h.cf.1 (k.block _ h.cf.2.2 (by rw [h.cf.2.1]; omega)), (k.col _ h.cf.2.2).trans h.cf.2.1, Nat.lt_of_lt_of_le h.cf.2.2 k.size⟩, h.qu.keep k (by omega), fun j hj => (k.col j (Nat.lt_of_lt_of_le hj h.since.size)).trans (h.base j hj), ⟨k.os.trans h.since.os, k.tape.trans h.since.tape, k.output.trans h.since.output, Nat.le_trans h.since.size k.size, fun j hj => (k.block j (Nat.lt_of_lt_of_le hj h.since.size) (by rw [h.base j hj]; omega)).trans (h.since.block j hj)⟩⟩
theorem SB.later (h : SB w0 nodes n own m c CF vb sb O w p d qv l) (k : w.Since w.heap.size w') : SB w0 nodes n own m c CF vb sb O w' p d qv l := h.keep (x := 60) (Ch.since k) (by decide) (by decide)
/-- A step of the Settle's own. -/
theorem SB.turn {p' : Sp} {d' : Sd} (h : SB w0 nodes n own m c CF vb sb O w p d qv l) (k : ChR 0 41 O O' w w') (hs : SIs O' 0 w' p' d') (hp : p'.sb = p.sb) (hf : Fx nodes n own m c d') : SB w0 nodes n own m c CF vb sb O' w' p' d' qv l :=
  ⟨hs, hp.trans h.psb, hf, ⟨rangeAt_on h.cf.1 (k.block _ h.cf.2.2 (by rw [h.cf.2.1]; omega)), (k.col _ h.cf.2.2).trans h.cf.2.1, Nat.lt_of_lt_of_le h.cf.2.2 k.size⟩, h.qu.keepR k (by omega), (ChR.base h.since h.base (by omega) k).2, (ChR.base h.since h.base (by omega) k).1⟩
theorem SB.tick {f : Nat → Option Du} (h : SB w0 nodes n own m c CF vb sb O w p d qv l) (hf : d.du = some f) :
    Calls Tryz.prog 26 #[.pointer (some ⟨sb, 0, none⟩)] w fun e w' => ∃ a cc K, e = .returned (.slice a K cc) ∧ Hid (∃ O', K = (peersM d f n).length ∧ SB w0 nodes n own m c CF vb sb O' w' p (tkD d f n) qv l ∧ Li O' 40 w' 108 22 (.slice a K cc) K (msF ((peersM d f n).map (sendM d f))) ∧ ChR 0 41 O O' w w') := by
  obtain rfl := h.psb
  refine (tick_due h.s hf).mono fun e w' ⟨a, cc, he, O', h1, h2, h3, h4⟩ => ?_
  rw [tkN_all, h.fx.hn] at h1 h2 h3 he
  refine ⟨a, cc, _, he, O', List.length_map .., h.turn h4 h1 rfl (h.fx.tick f n), h3, h4⟩
theorem SB.look (h : SB w0 nodes n own m c CF vb sb O w p d qv l) {l' : List Ent} {qa : Option Addr} {qc : Nat} (hq : QIn w qa l') (hl : l'.length ≤ 4000000000000) (x0 x1 x3 x4 x5 : Value) :
    Calls Tryz.prog 17 #[.pointer (some ⟨sb, 0, none⟩), .agg #[x0, x1, .slice qa l'.length qc, x3, x4, x5]] w fun e w' => e = .returned (.tuple #[]) ∧ Hid (∃ O' p', SB w0 nodes n own m c CF vb sb O' w' p' (lookM d l') qv l ∧ ChR 0 40 O O' w w') := by
  obtain rfl := h.psb
  refine (look_any h.s (h.fx.shard.trans (by rw [h.fx.hown])) hq hl x0 x1 x3 x4 x5).mono fun e w' ⟨he, O', ⟨b, V, h1⟩, h2⟩ => ⟨he, ?_⟩
  exact ⟨O', _, h.turn (h2.wide (lo' := 0) (hi' := 41) (Nat.le_refl _) (by omega)) h1 rfl (h.fx.look l').1, h2⟩
end
end Go.Proofs.YtdhhjdacidhmjaaGreat

/- Package settle, the document's: a Settle as plain data and in memory; first, Stop, Wants. -/
namespace Go.Proofs.YtdhhjdacidhmjaaGreat
open Go.RowKit
set_option maxRecDepth 100000
set_option maxRecDepth 100000
set_option maxHeartbeats 2000000 in
theorem rfirst_any {w : World} {qa : Option Addr} {qc : Nat} {l : List Ent} (h : QIn w qa l) (hl : l.length ≤ 4000000000000) (q : Int) :
    Calls Tryz.prog 43 #[.slice qa l.length qc, .int .i64 q] w fun e w' => e = .returned (.tuple #[.agg (entA (firstE l q)), .bool (firstM l q).isSome]) ∧ w.Since w.heap.size w' := by
  obtain ⟨L, hL⟩ : ∃ L, l.length = L := ⟨_, rfl⟩
  obtain ⟨W1, HW1, s1, r1⟩ := ent0_alloc w
  obtain ⟨rb, HRB⟩ : ∃ x, Hid (w.heap.size = x) := ⟨_, rfl⟩
  rw [HRB.out] at r1
  have HQ := hide (h.since s1)
  have HR := hide r1
  have HS := hide s1
  have HL := hide hL
  have HB := hide hl
  have HPUT : ∀ e : Ent, Hid (W1.there rb 0 (entA e).size) ∧ Hid ((Tryz.prog.info? 82).map (·.size) = some (entA e).size) ∧ Hid ((entA e).all (·.oneCell') = true) ∧ ∃ WF, Hid (W1.setCells rb 0 (entA e).toList = WF) ∧ Hid (WF.heap[rb]? = some (.cells (entA e) 82 (0, 0))) ∧ Hid (w.Since w.heap.size WF) := fun e =>
    ⟨row_there r1, infoE4, (by show _ = _; kernel_rfl), _, rfl, ent_row r1 e, since_setCells (by rw [HRB.out]; exact Nat.le_refl _) _ _ _ s1⟩
  have HPUT := hide HPUT
  rw [hL]
  clear h hL hl s1 r1
  go_enter Tryz.func43, Tryz.ntmps43
  go_upto_region 1 with fail
  rw [HW1.out, HRB.out]
  clear HW1
  go_wp2_with fail
  go_loopg [6] L (fun k s6 wx => ∃ j : Nat, j ≤ L ∧ k = L - j ∧ s6 = .int .i64 (j : Nat) ∧ Hid (W1 = wx ∧ firstM (l.take j) q = none))
  case atStart => exact ⟨0, Nat.zero_le _, rfl, rfl, rfl, by simp [firstM]⟩
  case round =>
    obtain ⟨j, hj, rfl, rfl, HX⟩ := hrel
    obtain ⟨rfl, hnone⟩ := HX.out
    by_cases hlt : j < L
    · have z1 : (j : Int) < (L : Int) := by omega
      have z0 : (0 : Int) ≤ (j : Int) := by omega
      have hwi : IntKind.i64.wrap ((j : Int) + 1) = (j : Int) + 1 := by have := HL.out; have := HB.out; rw [IntKind.wrap_i64]; omega
      have hme : L - (j + 1) < L - j := by omega
      have HJ := hide hlt
      obtain ⟨e, he⟩ : ∃ e, l[j]? = some e := ⟨_, List.getElem?_eq_getElem (by have := HL.out; omega)⟩
      obtain ⟨b, o, rfl, hrg, hbl⟩ := HQ.out.at' j e he
      have c0 : W1.cell? ⟨b, o + j * 4, none⟩ = some (.int .i64 e.p) := hrg 0 _ rfl
      have HRG : Hid (W1.rangeAt b (o + j * 4) (entA e).toList) := hrg
      have HIL : Hid ((Tryz.prog.info? 82).map (·.size) = some (entA e).toList.length) := infoE4
      have HN := hide hnone
      have HE := hide he
      clear hrg hbl he HX hj hlt hnone
      by_cases hp : e.p = q
      · have q0 : (e.p == q) = true := by simp [hp]
        have hM := firstM_hit l q j e HN.out HE.out hp
        have HM := hide hM
        obtain ⟨HT, HI, HO, WF, HWF, HHF, HSF⟩ := HPUT.out e
        clear HPUT hM HQ HR hp
        go_wp2_with (first
          | (refine wpList_load_mid rfl 82 _ rfl b (o + j * 4) rfl _ _ HRG.out Tryz.underlying82 rfl HIL.out ?_)
          | (refine wpList_store_mid rfl 82 _ _ rfl rb 0 _ rfl rfl HT.out HI.out HO.out ?_; rw [HWF.out]))
        refine bodyPost_ret_by (results_cell_row_tmp rfl _ _ rb 82 _ (0, 0) _ rfl HHF.out Tryz.underlying82 rfl HI.out _ rfl) rfl ⟨?_, HSF.out⟩
        unfold firstE
        rw [HM.out]
        rfl
      · have q0 : (e.p == q) = false := by simp [hp]
        have HZ : Hid (firstM (l.take (j + 1)) q = none) := firstM_skip l q j e HN.out HE.out hp
        clear HPUT HRG HIL hp
        go_wp2_with fail
        go_roundg (L - (j + 1))
        case measure => go_light; exact hme
        case rel => go_light; exact ⟨j + 1, HJ.out, rfl, by simp, rfl, HZ.out⟩
    · obtain rfl : j = L := by omega
      have z1 : ¬ (j : Int) < (j : Int) := by omega
      have hM : firstM l q = none := by rw [← HL.out, List.take_length] at hnone; exact hnone
      have HM := hide hM
      obtain ⟨HT, HI, HO, WF, HWF, HHF, HSF⟩ := HPUT.out ent0
      clear HPUT hM HQ HR HX hnone hj
      go_wp2_with (refine wpList_store_mid rfl 82 _ _ rfl rb 0 (entA ent0) rfl rfl HT.out HI.out HO.out ?_; rw [HWF.out])
      refine bodyPost_ret_by (results_cell_row_tmp rfl _ _ rb 82 _ (0, 0) _ rfl HHF.out Tryz.underlying82 rfl HI.out _ rfl) rfl ⟨?_, HSF.out⟩
      unfold firstE
      rw [HM.out]
      rfl
/-- The document's Settle as plain data: the ticks of each peer's pace, its turn, its first entry at the last Look. -/
structure Rd where
  node : Int
  own : Nat
  n : Nat
  m : Nat
  c : Nat
  nodes : Nat
  tk : Nat → Nat
  tu : Nat → Nat
  fi : Nat → Ent
  th : Nat → Bool
  q : List Ent
/-- Its peers' cells: eight each. -/
def rpF (r : Rd) (x : Nat) : Value := if x % 8 = 0 then .int .i64 (r.m : Nat) else if x % 8 = 1 then .int .i64 (r.tk (x / 8) : Nat) else if x % 8 = 2 then .int .i64 (r.tu (x / 8) : Nat) else if x % 8 = 7 then .bool (r.th (x / 8)) else entCell (r.fi (x / 8)) (x % 8 - 3)
theorem rpF_at (r : Rd) (i j : Nat) (hj : j < 8) : rpF r (i * 8 + j) = if j = 0 then .int .i64 (r.m : Nat) else if j = 1 then .int .i64 (r.tk i : Nat) else if j = 2 then .int .i64 (r.tu i : Nat) else if j = 7 then .bool (r.th i) else entCell (r.fi i) (j - 3) := by
  unfold rpF
  have e1 : (i * 8 + j) % 8 = j := by omega
  have e2 : (i * 8 + j) / 8 = i := by omega
  rw [e1, e2]
/-- Where it lies: the Settle, its peers, its queue. -/
structure Rp2 where
  rb : Nat
  eb : Nat
  ecap : Nat
  qv : Value
def rsCell (r : Rd) (p : Rp2) (vC : Nat → Value) (i : Nat) : Value := if i < 9 then vC i else if i = 9 then .int .i64 r.node else if i = 10 then .int .i64 (r.own : Nat) else if i = 11 then .slice (some ⟨p.eb, 0, none⟩) r.n p.ecap else p.qv
/-- The document's Settle in memory, of the colours q + 50 to q + 52. -/
structure RIs (O : Nat → Nat) (q : Nat) (w : World) (p : Rp2) (r : Rd) : Prop where
  row : ∃ v8, RowC O (q + 50) w p.rb 78 13 (rsCell r p (fun i => if i = 8 then v8 else cfgF r.nodes r.n r.c r.m i))
  peers : Li O (q + 51) w 84 8 (.slice (some ⟨p.eb, 0, none⟩) r.n p.ecap) r.n (rpF r)
  que : Qu O (q + 52) w p.qv r.q
  lim : 1 ≤ r.n ∧ r.n ≤ 8 ∧ r.n ≤ p.ecap ∧ r.own < r.n ∧ 1 ≤ r.m ∧ r.m ≤ 64 ∧ 1 ≤ r.c ∧ r.c ≤ 7 ∧ r.c ≤ r.nodes ∧ r.nodes ≤ 9
  tl : ∀ i, i < r.n → r.tu i < r.c
end Go.Proofs.YtdhhjdacidhmjaaGreat

/- Package settle, the document's: Stop, Wants. -/
namespace Go.Proofs.YtdhhjdacidhmjaaGreat
open Go.RowKit
set_option maxRecDepth 100000
set_option maxRecDepth 100000
section
variable {O O' : Nat → Nat} {q x : Nat} {w w' : World} {p : Rp2} {r : Rd}
theorem RIs.keep (h : RIs O q w p r) (k : Ch x O O' w w') (hx : x < q + 50 ∨ q + 52 < x) : RIs O' q w' p r :=
  ⟨h.row.imp fun _ h => h.keep k (by omega), h.peers.keep k (by omega), h.que.keep k (by omega), h.lim, h.tl⟩
theorem RIs.keepR {lo hi : Nat} (h : RIs O q w p r) (k : ChR lo hi O O' w w') (hx : hi ≤ q + 50 ∨ q + 52 < lo) : RIs O' q w' p r :=
  ⟨h.row.imp fun _ h => h.keepR k (by omega), h.peers.keepR k (by omega), h.que.keepR k (by omega), h.lim, h.tl⟩
theorem RIs.since (h : RIs O q w p r) (s : w.Since w.heap.size w') : RIs O q w' p r := h.keep (x := q + 60) (Ch.since s) (by omega)
theorem RIs.c (h : RIs O q w p r) : w.cell? ⟨p.rb, 0, none⟩ = some (.int .i64 (r.nodes : Nat)) ∧ w.cell? ⟨p.rb, 2, none⟩ = some (.int .i64 (r.c : Nat)) ∧ w.cell? ⟨p.rb, 9, none⟩ = some (.int .i64 r.node) ∧ w.cell? ⟨p.rb, 10, none⟩ = some (.int .i64 (r.own : Nat)) ∧ w.cell? ⟨p.rb, 11, none⟩ = some (.slice (some ⟨p.eb, 0, none⟩) r.n p.ecap) ∧ w.cell? ⟨p.rb, 12, none⟩ = some p.qv := by
  obtain ⟨v8, hr⟩ := h.row
  exact ⟨hr.1.cell (i := 0) (by decide), hr.1.cell (i := 2) (by decide), hr.1.cell (i := 9) (by decide), hr.1.cell (i := 10) (by decide), hr.1.cell (i := 11) (by decide), hr.1.cell (i := 12) (by decide)⟩
theorem RIs.pcell (h : RIs O q w p r) (i j : Nat) (hi : i < r.n) (hj : j < 8) : w.cell? ⟨p.eb, i * 8 + j, none⟩ = some (rpF r (i * 8 + j)) ∧ w.frozen? ⟨p.eb, i * 8 + j, none⟩ = false := by
  obtain ⟨b, cap, F, hv, h1, h2, h3, h4⟩ := h.peers.at' (by omega)
  injection hv with ha _ _
  obtain rfl : p.eb = b := congrArg Addr.block (Option.some.inj ha)
  have hm := Nat.mul_le_mul_right 8 h1
  exact ⟨by rw [h3.1.cell (i := i * 8 + j) (by omega), h4 _ (by omega)], h3.1.frozen _⟩
/-- A cell of a peer is turned. -/
theorem RIs.pset (h : RIs O q w p r) (i j : Nat) (_ : i < r.n) (hj : j < 8) (v : Value) (r' : Rd) (e : ∀ a b, a < r.n → b < 8 → rpF r' (a * 8 + b) = if a = i ∧ b = j then v else rpF r (a * 8 + b)) (h1 : r'.n = r.n ∧ r'.m = r.m ∧ r'.c = r.c ∧ r'.nodes = r.nodes ∧ r'.node = r.node ∧ r'.own = r.own ∧ r'.q = r.q) (h2 : ∀ i, i < r.n → r'.tu i < r.c) :
    RIs O q (w.setCell ⟨p.eb, i * 8 + j, none⟩ v) p r' ∧ Ch (q + 51) O O w (w.setCell ⟨p.eb, i * 8 + j, none⟩ v) := by
  obtain ⟨g1, g2, g3, g4, g5, g6, g7⟩ := h1
  have hb := h.peers.2 p.eb rfl
  have k : Ch (q + 51) O O w (w.setCell ⟨p.eb, i * 8 + j, none⟩ v) := Ch.set hb _ _
  refine ⟨⟨?_, ?_, ?_, ?_, ?_⟩, k⟩
  · obtain ⟨v8, hr⟩ := h.row
    refine ⟨v8, (hr.keep k (by omega)).1.congr fun z _ => ?_, (hr.keep k (by omega)).2⟩
    unfold rsCell
    rw [g1, g2, g3, g4, g5, g6]
  · rw [g1]
    refine (h.peers.set (by have := h.lim; omega) p.eb p.ecap rfl (i * 8 + j) v).congr fun z hz => ?_
    have e0 : z = z / 8 * 8 + z % 8 := by omega
    have e1 := e (z / 8) (z % 8) (by omega) (by omega)
    rw [← e0] at e1
    rw [e1]
    show (if z = i * 8 + j then v else rpF r z) = _
    by_cases hz2 : z = i * 8 + j
    · rw [if_pos hz2, if_pos ⟨by omega, by omega⟩]
    · rw [if_neg hz2, if_neg (fun hh => hz2 (by omega))]
  · rw [g7]; exact h.que.keep k (by omega)
  · rw [g1, g2, g3, g4, g6]; exact h.lim
  · rw [g1, g3]; exact h2
theorem RIs.setTh (h : RIs O q w p r) (i : Nat) (hi : i < r.n) (b : Bool) : RIs O q (w.setCell ⟨p.eb, i * 8 + 7, none⟩ (.bool b)) p { r with th := up r.th i b } ∧ Ch (q + 51) O O w (w.setCell ⟨p.eb, i * 8 + 7, none⟩ (.bool b)) := by
  refine h.pset i 7 hi (by decide) _ _ (fun a c ha hc => ?_) ⟨rfl, rfl, rfl, rfl, rfl, rfl, rfl⟩ h.tl
  rw [rpF_at _ _ _ hc, rpF_at _ _ _ hc]
  show (if c = 0 then Value.int .i64 (r.m : Nat) else if c = 1 then .int .i64 (r.tk a : Nat) else if c = 2 then .int .i64 (r.tu a : Nat) else if c = 7 then .bool (if a = i then b else r.th a) else entCell (r.fi a) (c - 3)) = _
  by_cases e : a = i ∧ c = 7
  · obtain ⟨rfl, rfl⟩ := e
    simp
  · rw [if_neg e]
    by_cases e7 : c = 7
    · have : a ≠ i := fun h => e ⟨h, e7⟩
      simp [this]
    · simp [e7]
theorem RIs.setTk (h : RIs O q w p r) (i : Nat) (hi : i < r.n) (t : Nat) : RIs O q (w.setCell ⟨p.eb, i * 8 + 1, none⟩ (.int .i64 (t : Nat))) p { r with tk := up r.tk i t } ∧ Ch (q + 51) O O w (w.setCell ⟨p.eb, i * 8 + 1, none⟩ (.int .i64 (t : Nat))) := by
  refine h.pset i 1 hi (by decide) _ _ (fun a c ha hc => ?_) ⟨rfl, rfl, rfl, rfl, rfl, rfl, rfl⟩ h.tl
  rw [rpF_at _ _ _ hc, rpF_at _ _ _ hc]
  show (if c = 0 then Value.int .i64 (r.m : Nat) else if c = 1 then .int .i64 ((if a = i then t else r.tk a : Nat) : Nat) else if c = 2 then .int .i64 (r.tu a : Nat) else if c = 7 then .bool (r.th a) else entCell (r.fi a) (c - 3)) = _
  by_cases e : a = i ∧ c = 1
  · obtain ⟨rfl, rfl⟩ := e
    simp
  · rw [if_neg e]
    by_cases e7 : c = 1
    · have : a ≠ i := fun h => e ⟨h, e7⟩
      simp [this]
    · simp [e7]
theorem RIs.setTu (h : RIs O q w p r) (i : Nat) (hi : i < r.n) (t : Nat) (ht : t < r.c) : RIs O q (w.setCell ⟨p.eb, i * 8 + 2, none⟩ (.int .i64 (t : Nat))) p { r with tu := up r.tu i t } ∧ Ch (q + 51) O O w (w.setCell ⟨p.eb, i * 8 + 2, none⟩ (.int .i64 (t : Nat))) := by
  refine h.pset i 2 hi (by decide) _ _ (fun a c ha hc => ?_) ⟨rfl, rfl, rfl, rfl, rfl, rfl, rfl⟩ (fun a ha => ?_)
  · rw [rpF_at _ _ _ hc, rpF_at _ _ _ hc]
    show (if c = 0 then Value.int .i64 (r.m : Nat) else if c = 1 then .int .i64 (r.tk a : Nat) else if c = 2 then .int .i64 ((if a = i then t else r.tu a : Nat) : Nat) else if c = 7 then .bool (r.th a) else entCell (r.fi a) (c - 3)) = _
    by_cases e : a = i ∧ c = 2
    · obtain ⟨rfl, rfl⟩ := e
      simp
    · rw [if_neg e]
      by_cases e7 : c = 2
      · have : a ≠ i := fun h => e ⟨h, e7⟩
        simp [this]
      · simp [e7]
  · show (if a = i then t else r.tu a) < r.c
    split
    · exact ht
    · exact h.tl a ha
/-- The first entry is turned: four cells. -/
theorem RIs.setFi (h : RIs O q w p r) (i : Nat) (hi : i < r.n) (e : Ent) : RIs O q (w.setCells p.eb (i * 8 + 3) (entL e)) p { r with fi := up r.fi i e } ∧ Ch (q + 51) O O w (w.setCells p.eb (i * 8 + 3) (entL e)) := by
  have hb := h.peers.2 p.eb rfl
  have k : Ch (q + 51) O O w (w.setCells p.eb (i * 8 + 3) (entL e)) := Ch.sets hb _ _ _
  refine ⟨⟨?_, ?_, h.que.keep k (by omega), h.lim, h.tl⟩, k⟩
  · obtain ⟨v8, hr⟩ := h.row
    exact ⟨v8, hr.keep k (by omega)⟩
  · have hn : 0 < r.n := by have := h.lim; omega
    have s1 := h.peers.set hn p.eb p.ecap rfl (i * 8 + 3) (.int .i64 e.p)
    have s2 := s1.set hn p.eb p.ecap rfl (i * 8 + 3 + 1) (.int .u64 (e.nu : Nat))
    have s3 := s2.set hn p.eb p.ecap rfl (i * 8 + 3 + 1 + 1) (.string (strL e.na))
    have s4 := s3.set hn p.eb p.ecap rfl (i * 8 + 3 + 1 + 1 + 1) (.int .u64 (e.am : Nat))
    refine s4.congr fun z hz => ?_
    have e0 : z = z / 8 * 8 + z % 8 := by omega
    have h8 : z % 8 < 8 := Nat.mod_lt _ (by decide)
    rw [e0]
    generalize z / 8 = a at *
    generalize z % 8 = c at *
    rw [rpF_at { r with fi := up r.fi i e } a c h8]
    show (if a * 8 + c = i * 8 + 3 + 1 + 1 + 1 then Value.int .u64 (e.am : Nat) else if a * 8 + c = i * 8 + 3 + 1 + 1 then .string (strL e.na) else if a * 8 + c = i * 8 + 3 + 1 then .int .u64 (e.nu : Nat) else if a * 8 + c = i * 8 + 3 then .int .i64 e.p else rpF r (a * 8 + c)) = if c = 0 then .int .i64 (r.m : Nat) else if c = 1 then .int .i64 (r.tk a : Nat) else if c = 2 then .int .i64 (r.tu a : Nat) else if c = 7 then .bool (r.th a) else entCell (if a = i then e else r.fi a) (c - 3)
    by_cases ea : a = i
    · subst ea
      match c, h8 with
      | 0, _ => rw [if_neg (by omega), if_neg (by omega), if_neg (by omega), if_neg (by omega), rpF_at _ _ _ (by decide)]; rfl
      | 1, _ => rw [if_neg (by omega), if_neg (by omega), if_neg (by omega), if_neg (by omega), rpF_at _ _ _ (by decide)]; rfl
      | 2, _ => rw [if_neg (by omega), if_neg (by omega), if_neg (by omega), if_neg (by omega), rpF_at _ _ _ (by decide)]; rfl
      | 3, _ => rw [if_neg (by omega), if_neg (by omega), if_neg (by omega), if_pos (by omega), if_pos rfl]; rfl
      | 4, _ => rw [if_neg (by omega), if_neg (by omega), if_pos (by omega), if_pos rfl]; rfl
      | 5, _ => rw [if_neg (by omega), if_pos (by omega), if_pos rfl]; rfl
      | 6, _ => rw [if_pos (by omega), if_pos rfl]; rfl
      | 7, _ => rw [if_neg (by omega), if_neg (by omega), if_neg (by omega), if_neg (by omega), rpF_at _ _ _ (by decide)]; rfl
    · rw [if_neg (by omega), if_neg (by omega), if_neg (by omega), if_neg (by omega), if_neg ea, rpF_at _ _ _ h8]
/-- The queue is another one. -/
theorem RIs.setQ {qv' : Value} {l : List Ent} (h : RIs O q w p r) (hq : Qu O (q + 52) w qv' l) : RIs O q (w.setCell ⟨p.rb, 12, none⟩ qv') { p with qv := qv' } { r with q := l } ∧ Ch (q + 50) O O w (w.setCell ⟨p.rb, 12, none⟩ qv') := by
  obtain ⟨v8, hr⟩ := h.row
  have k : Ch (q + 50) O O w (w.setCell ⟨p.rb, 12, none⟩ qv') := Ch.set hr.2 _ _
  refine ⟨⟨⟨v8, ((hr.set 12 qv').1.congr fun z hz => ?_), hr.2⟩, h.peers.keep k (by omega), hq.keep k (by omega), h.lim, h.tl⟩, k⟩
  show (if z = 12 then qv' else rsCell r p _ z) = rsCell { r with q := l } { p with qv := qv' } _ z
  unfold rsCell
  by_cases e : z = 12
  · subst e; rfl
  · rw [if_neg e]
    by_cases e1 : z < 9
    · rw [if_pos e1, if_pos e1]
    · rw [if_neg e1, if_neg e1]
      by_cases e2 : z = 9
      · rw [if_pos e2, if_pos e2]
      · rw [if_neg e2, if_neg e2]
        by_cases e3 : z = 10
        · rw [if_pos e3, if_pos e3]
        · rw [if_neg e3, if_neg e3]
          have e4 : z = 11 := by omega
          rw [if_pos e4, if_pos e4]
end
def Rd.stop (r : Rd) (k : Nat) : Rd := { r with q := [], th := fun j => if j < k then false else r.th j }
set_option maxHeartbeats 2000000 in
/-- The document's Stop. -/
theorem rstop_any {O : Nat → Nat} {q : Nat} {w : World} {p : Rp2} {r : Rd} (h : RIs O q w p r) :
    Calls Tryz.prog 25 #[.pointer (some ⟨p.rb, 0, none⟩)] w fun e w' => e = .returned (.tuple #[]) ∧ Hid (RIs O q w' { p with qv := .slice none 0 0 } (r.stop r.n) ∧ ChR (q + 50) (q + 53) O O w w') := by
  obtain ⟨h1, k1⟩ := h.setQ (Qu.nil O (q + 52) w)
  have c12 := h.c.2.2.2.2.2
  have f12 : w.frozen? ⟨p.rb, 12, none⟩ = false := by obtain ⟨_, hr⟩ := h.row; exact hr.1.frozen 12
  obtain ⟨n, hn⟩ : ∃ n, r.n = n := ⟨_, rfl⟩
  obtain ⟨W1, HW1⟩ : ∃ W, Hid (w.setCell ⟨p.rb, 12, none⟩ (.slice none 0 0) = W) := ⟨_, rfl⟩
  rw [HW1.out] at h1 k1
  have HX0 : Hid (RIs O q W1 { p with qv := .slice none 0 0 } (r.stop 0) ∧ ChR (q + 50) (q + 53) O O w W1) := by
    refine ⟨?_, ChR.of k1 (by omega) (by omega)⟩
    have e : (fun j => if j < 0 then false else r.th j) = r.th := by funext j; exact if_neg (Nat.not_lt_zero j)
    unfold Rd.stop
    rw [e]
    exact h1
  have HN : Hid (r.n = n ∧ n ≤ 8) := ⟨hn, by have := h.lim; omega⟩
  have HE : Hid (p.ecap = p.ecap) := rfl
  obtain ⟨rb, hrb⟩ : ∃ x, p.rb = x := ⟨_, rfl⟩
  obtain ⟨eb, heb⟩ : ∃ x, p.eb = x := ⟨_, rfl⟩
  obtain ⟨ec, hec⟩ : ∃ x, p.ecap = x := ⟨_, rfl⟩
  have HC : Hid (∀ W i, RIs O q W { p with qv := .slice none 0 0 } (r.stop i) → W.cell? ⟨rb, 11, none⟩ = some (.slice (some ⟨eb, 0, none⟩) n ec)) := fun W i h => by
    have := h.c.2.2.2.2.1
    rw [← hrb, ← heb, ← hec, ← hn]
    exact this
  have HP : Hid (∀ W i, i < n → RIs O q W { p with qv := .slice none 0 0 } (r.stop i) → (W.cell? ⟨eb, i * 8 + 7, none⟩ = some (.bool (r.th i)) ∧ W.frozen? ⟨eb, i * 8 + 7, none⟩ = false) ∧ RIs O q (W.setCell ⟨eb, i * 8 + 7, none⟩ (.bool false)) { p with qv := .slice none 0 0 } (r.stop (i + 1)) ∧ ChR (q + 50) (q + 53) O O W (W.setCell ⟨eb, i * 8 + 7, none⟩ (.bool false))) := fun W i hi h => by
    have hi' : i < r.n := by omega
    obtain ⟨a1, a2⟩ := h.pcell i 7 hi' (by decide)
    obtain ⟨b1, b2⟩ := h.setTh i hi' false
    rw [← heb]
    refine ⟨⟨?_, a2⟩, ?_, ChR.of b2 (by omega) (by omega)⟩
    · rw [rpF_at _ _ _ (by decide)] at a1
      have e : (if i < i then false else r.th i) = r.th i := if_neg (Nat.lt_irrefl i)
      have a3 : W.cell? ⟨p.eb, i * 8 + 7, none⟩ = some (.bool (if i < i then false else r.th i)) := a1
      rw [e] at a3
      exact a3
    · have e : (fun j => if j < i + 1 then false else r.th j) = up (fun j => if j < i then false else r.th j) i false := by
        funext j
        show _ = if j = i then false else if j < i then false else r.th j
        by_cases e1 : j = i
        · rw [if_pos e1, if_pos (by omega)]
        · rw [if_neg e1]
          by_cases e2 : j < i
          · rw [if_pos e2, if_pos (by omega)]
          · rw [if_neg e2, if_neg (by omega)]
      unfold Rd.stop
      rw [e]
      exact b1
  rw [hrb] at HW1 c12 f12 ⊢
  have HRB := hide hrb
  clear h h1 k1 hn HE hrb heb hec
  go_enter Tryz.func25, Tryz.ntmps25
  go_upto_region 1 with fail
  rw [HW1.out]
  clear HW1 c12 f12
  go_wp2_with fail
  go_loopg [2] n (fun g s2 wx => ∃ i : Nat, i ≤ n ∧ g = n - i ∧ s2 = .int .i64 (i : Nat) ∧ Hid (RIs O q wx { p with qv := .slice none 0 0 } (r.stop i) ∧ ChR (q + 50) (q + 53) O O w wx))
  case atStart => exact ⟨0, Nat.zero_le _, rfl, rfl, HX0.out⟩
  case round =>
    clear HX0
    obtain ⟨i, hi, rfl, rfl, HX⟩ := hrel
    have c11 := HC.out _ _ HX.out.1
    by_cases hlt : i < n
    · have z1 : (i : Int) < (n : Int) := by omega
      have z0 : (0 : Int) ≤ (i : Int) := by omega
      have hwi : IntKind.i64.wrap ((i : Int) + 1) = (i : Int) + 1 := by have := HN.out; rw [IntKind.wrap_i64]; omega
      have hme : n - (i + 1) < n - i := by omega
      have HJ := hide hlt
      obtain ⟨⟨a1, a2⟩, hs, hk⟩ := HP.out _ i hlt HX.out.1
      have HXN : Hid (RIs O q (wr.setCell ⟨eb, i * 8 + 7, none⟩ (.bool false)) { p with qv := .slice none 0 0 } (r.stop (i + 1)) ∧ ChR (q + 50) (q + 53) O O w (wr.setCell ⟨eb, i * 8 + 7, none⟩ (.bool false))) := ⟨hs, HX.out.2.trans hk⟩
      obtain ⟨W2, HW2⟩ : ∃ W, Hid (wr.setCell ⟨eb, i * 8 + 7, none⟩ (.bool false) = W) := ⟨_, rfl⟩
      rw [HW2.out] at HXN
      clear HX hi hlt hs hk
      go_wp2_with (rw [HW2.out]; clear HW2)
      go_roundg (n - (i + 1))
      case measure => go_light; exact hme
      case rel => go_light; exact ⟨i + 1, HJ.out, rfl, by simp, HXN.out⟩
    · obtain rfl : i = n := by omega
      have z1 : ¬ (i : Int) < (i : Int) := by omega
      clear hi hlt
      go_wp2_with fail
      go_end0
      refine ⟨rfl, ?_⟩
      rw [HN.out.1]
      have hx := HX.out
      rw [HRB.out] at hx
      exact hx
/-- What the document's Wants answers. -/
def wantsR (r : Rd) (peer : Int) (num : Nat) : Bool := if peer = (r.own : Nat) ∨ peer < 0 ∨ (r.n : Int) ≤ peer then false else r.q.any (fun e => e.p == peer && decide (e.nu ≤ num))
theorem any_skip (l : List Ent) (f : Ent → Bool) (j : Nat) (e : Ent) (h : (l.take j).any f = false) (he : l[j]? = some e) (hf : f e = false) : (l.take (j + 1)).any f = false := by
  rw [List.take_add_one, he, List.any_append, h]
  simp [hf]
theorem any_hit (l : List Ent) (f : Ent → Bool) (j : Nat) (e : Ent) (he : l[j]? = some e) (hf : f e = true) : l.any f = true := List.any_eq_true.2 ⟨e, List.mem_of_getElem? he, hf⟩
set_option maxHeartbeats 2000000 in
theorem rwants_any {O : Nat → Nat} {q : Nat} {w : World} {p : Rp2} {r : Rd} {qa : Option Addr} {qc : Nat} (h : RIs O q w p r) (hqv : p.qv = .slice qa r.q.length qc) (hl : r.q.length ≤ 4000000000000) (peer : Int) (num : Nat) :
    Calls Tryz.prog 31 #[.pointer (some ⟨p.rb, 0, none⟩), .int .i64 peer, .int .u64 (num : Nat)] w fun e w' => e = .returned (.bool (wantsR r peer num)) ∧ w = w' := by
  obtain ⟨_, _, _, c10, c11, c12⟩ := h.c
  rw [hqv] at c12
  have hq := h.que
  rw [hqv] at hq
  have HQ := hide hq.q
  obtain ⟨L, hL⟩ : ∃ L, r.q.length = L := ⟨_, rfl⟩
  have HL := hide hL
  have HB := hide hl
  obtain ⟨l, hll⟩ : ∃ l, r.q = l := ⟨_, rfl⟩
  obtain ⟨own, ho⟩ : ∃ x, r.own = x := ⟨_, rfl⟩
  obtain ⟨n, hn⟩ : ∃ x, r.n = x := ⟨_, rfl⟩
  rw [hL] at c12
  rw [ho] at c10
  rw [hn] at c11
  rw [hll] at HQ HL HB
  have hans : ∀ b, wantsR r peer num = b ↔ (if peer = (own : Nat) ∨ peer < 0 ∨ (n : Int) ≤ peer then false else l.any (fun e => e.p == peer && decide (e.nu ≤ num))) = b := fun b => by unfold wantsR; rw [ho, hn, hll]
  obtain ⟨A, hA⟩ : ∃ A, wantsR r peer num = A := ⟨_, rfl⟩
  have HA := hide ((hans A).1 hA)
  rw [hA]
  generalize p.rb = rb at *
  generalize p.eb = eb at *
  generalize p.ecap = ec at *
  clear h hqv hl hL hq hll ho hn hans hA
  by_cases h1 : peer = (own : Nat)
  · have q0 : (peer == (own : Int)) = true := by simp [h1]
    obtain rfl : A = false := by have := HA.out; rw [if_pos (.inl h1)] at this; exact this.symm
    clear h1
    go_enter Tryz.func31, Tryz.ntmps31
    go_wp2_with fail
    go_ret
    exact ⟨rfl, rfl⟩
  · have q0 : (peer == (own : Int)) = false := by simp [h1]
    by_cases h2 : peer < 0
    · obtain rfl : A = false := by have := HA.out; rw [if_pos (.inr (.inl h2))] at this; exact this.symm
      clear h1
      go_enter Tryz.func31, Tryz.ntmps31
      go_wp2_with fail
      go_ret
      exact ⟨rfl, rfl⟩
    · by_cases h3 : (n : Int) ≤ peer
      · obtain rfl : A = false := by have := HA.out; rw [if_pos (.inr (.inr h3))] at this; exact this.symm
        clear h1
        go_enter Tryz.func31, Tryz.ntmps31
        go_wp2_with fail
        go_ret
        exact ⟨rfl, rfl⟩
      · have HA2 : Hid (l.any (fun e => e.p == peer && decide (e.nu ≤ num)) = A) := by have := HA.out; rw [if_neg (fun h => h.elim h1 (fun h => h.elim h2 h3))] at this; exact this
        clear h1 HA
        go_enter Tryz.func31, Tryz.ntmps31
        go_wp2_with fail
        go_loopg [7] L (fun g s7 wx => ∃ j : Nat, j ≤ L ∧ g = L - j ∧ s7 = .int .i64 (j : Nat) ∧ Hid (w = wx ∧ (l.take j).any (fun e => e.p == peer && decide (e.nu ≤ num)) = false))
        case atStart => exact ⟨0, Nat.zero_le _, rfl, rfl, rfl, by simp⟩
        case round =>
          obtain ⟨j, hj, rfl, rfl, HX⟩ := hrel
          obtain ⟨rfl, hnone⟩ := HX.out
          clear HX
          by_cases hlt : j < L
          · have z1 : (j : Int) < (L : Int) := by omega
            have z0 : (0 : Int) ≤ (j : Int) := by omega
            have hwi : IntKind.i64.wrap ((j : Int) + 1) = (j : Int) + 1 := by have := HL.out; have := HB.out; rw [IntKind.wrap_i64]; omega
            have hme : L - (j + 1) < L - j := by omega
            have HJ := hide hlt
            obtain ⟨e, he⟩ : ∃ e, l[j]? = some e := ⟨_, List.getElem?_eq_getElem (by have := HL.out; omega)⟩
            obtain ⟨b, o, rfl, hrg, hbl⟩ := HQ.out.at' j e he
            have e0 : w.cell? ⟨b, o + j * 4, none⟩ = some (.int .i64 e.p) := hrg 0 _ rfl
            have e1 : w.cell? ⟨b, o + j * 4 + 1, none⟩ = some (.int .u64 (e.nu : Nat)) := hrg 1 _ rfl
            have HE := hide he
            have HNO := hide hnone
            clear hrg hbl he hnone hj hlt
            by_cases hp : e.p = peer
            · have q1 : (e.p == peer) = true := by simp [hp]
              by_cases hk : e.nu ≤ num
              · have q2 : decide (e.nu ≤ num) = true := decide_eq_true hk
                obtain rfl : A = true := by rw [← HA2.out]; exact any_hit l _ j e HE.out (by simp [hp, hk])
                clear hp
                go_wp2_with fail
                go_ret
                exact ⟨rfl, rfl⟩
              · have q2 : decide (e.nu ≤ num) = false := decide_eq_false hk
                have HN2 := hide (any_skip l (fun e => e.p == peer && decide (e.nu ≤ num)) j e HNO.out HE.out (by simp [hk]))
                clear hp
                go_wp2_with fail
                go_roundg (L - (j + 1))
                case measure => go_light; exact hme
                case rel => go_light; exact ⟨j + 1, HJ.out, rfl, by simp, rfl, HN2.out⟩
            · have q1 : (e.p == peer) = false := by simp [hp]
              have HN2 := hide (any_skip l (fun e => e.p == peer && decide (e.nu ≤ num)) j e HNO.out HE.out (by simp [hp]))
              clear hp
              go_wp2_with fail
              go_roundg (L - (j + 1))
              case measure => go_light; exact hme
              case rel => go_light; exact ⟨j + 1, HJ.out, rfl, by simp, rfl, HN2.out⟩
          · obtain rfl : j = L := by omega
            have z1 : ¬ (j : Int) < (j : Int) := by omega
            obtain rfl : A = false := by rw [← HA2.out]; rw [← HL.out, List.take_length] at hnone; exact hnone
            clear hj hlt hnone
            go_wp2_with fail
            go_ret
            exact ⟨rfl, rfl⟩
end Go.Proofs.YtdhhjdacidhmjaaGreat

/- Package settle: how the laws of settle begin. -/
namespace Go.Proofs.YtdhhjdacidhmjaaGreat
open Go.RowKit
set_option maxRecDepth 100000
set_option maxRecDepth 100000
/-- What a law of settle begins with. -/
def StE (w w6 : World) (nodes n own m c : Nat) (CF : Array Value) (vb sb : Nat) (qa : Option Addr) (K qc : Nat) : Prop := cfgA nodes n c m = CF ∧ (1 ≤ nodes ∧ nodes ≤ 9 ∧ 1 ≤ n ∧ n ≤ 8 ∧ 1 ≤ c ∧ c ≤ 7 ∧ 1 ≤ m ∧ m ≤ 64) ∧ (∀ i : Nat, i < n → goodM i nodes c) ∧ own < n ∧ ∃ O p l nx, K = l.length ∧ K ≤ 16 ∧ SB w nodes n own m c CF vb sb O w6 p (newS 0 own nodes n c m) (.slice qa K qc) l ∧ LaidQ n own l nx
end Go.Proofs.YtdhhjdacidhmjaaGreat
