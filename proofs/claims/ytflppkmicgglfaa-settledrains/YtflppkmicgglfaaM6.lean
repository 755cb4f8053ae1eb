/- Own texts, joined: ST14, ST15, ST16, ST17, ST18, ST19, ST21, ST22. -/
import Derived.Test.YtflppkmicgglfaaM5

/- Package settle: the law's helpers: wakes. -/
namespace Go.Proofs.Ytflppkmicgglfaa
open Go.RowKit
set_option maxRecDepth 100000
set_option maxRecDepth 100000
theorem ChR.base {w0 w w' : World} {lo hi X : Nat} {O O' : Nat → Nat} (h0 : w0.Since w0.heap.size w) (hO : ∀ k, k < w0.heap.size → O k = X) (hx : X < lo ∨ hi ≤ X) (h : ChR lo hi O O' w w') : w0.Since w0.heap.size w' ∧ ∀ k, k < w0.heap.size → O' k = X :=
  ⟨⟨h.os.trans h0.os, h.tape.trans h0.tape, h.output.trans h0.output, Nat.le_trans h0.size h.size, fun k hk => (h.block k (Nat.lt_of_lt_of_le hk h0.size) (by rw [hO k hk]; exact hx)).trans (h0.block k hk)⟩, fun k hk => (h.col k (Nat.lt_of_lt_of_le hk h0.size)).trans (hO k hk)⟩
def entW : Ent := ⟨1, 4, [97, 110, 110], 9⟩
theorem entW_q (w : World) : QIn (w.alloc (.cells #[.int .i64 1, .int .u64 4, .string ⟨#[97, 110, 110]⟩, .int .u64 9] 55)) (some ⟨w.heap.size, 0, none⟩) [entW] := by
  refine ⟨fun j e he => ?_, fun e he => ?_⟩
  · have hj : j < 1 := (List.getElem?_eq_some_iff.1 he).1
    obtain rfl : j = 0 := by omega
    obtain rfl : entW = e := Option.some.inj he
    refine ⟨_, 0, rfl, fun i v hv => ?_, by simp⟩
    have hi : i < 4 := (List.getElem?_eq_some_iff.1 hv).1
    rw [← hv]
    match i, hi with
    | 0, _ => simp [entL, entW]
    | 1, _ => simp [entL, entW]
    | 2, _ => simp [entL, entW, strL]; rfl
    | 3, _ => simp [entL, entW]
  · obtain rfl := List.mem_singleton.1 he
    exact ⟨by decide, by decide⟩
/-- What the law shows it first, and what is told then. -/
theorem wakes_ms : ∃ f, (lookM (newS 1 0 3 2 3 4) [entW]).du = some f ∧ (tkN (lookM (newS 1 0 3 2 3 4) [entW]) f (lookM (newS 1 0 3 2 3 4) [entW]).n).2 = [telG 1 0 entW (copN 1 3 0 : Nat)] ∧ wantsM (tkN (lookM (newS 1 0 3 2 3 4) [entW]) f (lookM (newS 1 0 3 2 3 4) [entW]).n).1 1 4 = true := ⟨_, rfl, rfl, rfl⟩
theorem li_cell {O : Nat → Nat} {c t sz n : Nat} {w : World} {a : Option Addr} {cap : Nat} {f : Nat → Value} (h : Li O c w t sz (.slice a n cap) n f) (hn : 0 < n) : ∃ b, a = some ⟨b, 0, none⟩ ∧ ∀ j, j < n * sz → w.cell? ⟨b, j, none⟩ = some (f j) := by
  obtain ⟨b, cp, F, hv, h1, h2, h3, h4⟩ := h.at' hn
  injection hv with ha _ _
  refine ⟨b, ha, fun j hj => ?_⟩
  rw [h3.1.cell (Nat.lt_of_lt_of_le hj (Nat.mul_le_mul_right _ h1)), h4 j hj]
set_option maxHeartbeats 4000000 in
theorem wakesS_any (w : World) : Calls Try.prog 7 #[] w fun e w' => e = .returned (.bool true) ∧ w.Since w.heap.size w' := by
  have HC : Hid (Calls Try.prog 16 #[.int .i64 2, .int .i64 1, .int .i64 1, .int .i64 3] w fun e w1 => e = .returned (.agg (cfgA 3 2 3 4)) ∧ Hid (Calls Try.prog 6 #[.agg (cfgA 3 2 3 4), .int .i64 1, .int .i64 0] w1 fun e w2 => ∃ sb, e = .returned (.pointer (some ⟨sb, 0, none⟩)) ∧
      ∃ qb W3, Hid (w2.heap.size = qb) ∧ Hid (w2.alloc (.cells #[.int .i64 1, .int .u64 4, .string ⟨#[97, 110, 110]⟩, .int .u64 9] 55) = W3) ∧ Hid (Calls Try.prog 9 #[.pointer (some ⟨sb, 0, none⟩), .agg #[.int .i64 0, .slice none 0 0, .slice (some ⟨qb, 0, none⟩) 1 1, .slice none 0 0, .slice none 0 0, .slice none 0 0]] W3 fun e w4 => e = .returned (.tuple #[]) ∧
      Hid (Calls Try.prog 8 #[.pointer (some ⟨sb, 0, none⟩)] w4 fun e w5 => ∃ b c, e = .returned (.slice (some ⟨b, 0, none⟩) 1 c) ∧ w5.cell? ⟨b, 0, none⟩ = some (.int .i64 8) ∧ w5.cell? ⟨b, 1, none⟩ = some (.int .i64 1) ∧ w5.cell? ⟨b, 11, none⟩ = some (.int .i64 1) ∧ w5.cell? ⟨b, 12, none⟩ = some (.int .u64 4) ∧
      Hid (Calls Try.prog 13 #[.pointer (some ⟨sb, 0, none⟩), .int .i64 1, .int .u64 4] w5 fun e w6 => e = .returned (.bool true) ∧ w.Since w.heap.size w6))))) := by
    refine (config_any 2 1 1 3 w).mono fun e w1 ⟨nodes, n, c, m, he, hh⟩ => ?_
    obtain ⟨⟨e1, e2, e3, e4⟩, hb, hg, s1⟩ := hh.out
    obtain rfl : nodes = 3 := e1
    obtain rfl : n = 2 := e2
    obtain rfl : m = 4 := e3
    obtain rfl : c = 3 := e4
    refine ⟨he, ?_⟩
    refine (newS_any (q := 0) (own := 0) hg (by decide) (by decide) (by decide) (by decide) (by decide) 1 (fun _ => 1000) _ _ _ _ _).mono fun e w2 ⟨sb, he2, ⟨O, p, h2, hp, hO⟩, s2⟩ => ?_
    have s3 : w2.Since w2.heap.size (w2.alloc (.cells #[.int .i64 1, .int .u64 4, .string ⟨#[97, 110, 110]⟩, .int .u64 9] 55)) := (World.Since.refl _ _).alloc (Nat.le_refl _) _
    refine ⟨sb, he2, _, _, rfl, rfl, ?_⟩
    have z1 := s1.size
    have hO' : ∀ k, k < w.heap.size → O k = 1000 := fun k hk => hO k (by omega)
    have b3 := (s1.trans (since_mono s2 s1.size)).trans (since_mono s3 (Nat.le_trans s1.size s2.size))
    rw [← hp]
    refine (look_any (h2.since s3) rfl (qc := 1) (entW_q w2) (by decide) _ _ _ _ _).mono fun e w4 ⟨he4, O4, ⟨b, V, h4⟩, k4⟩ => ⟨he4, ?_⟩
    obtain ⟨b4, o4⟩ := ChR.base b3 hO' (by decide) k4
    obtain ⟨f, hf, hms, hwa⟩ := wakes_ms
    refine (tick_due h4 hf).mono fun e w5 ⟨a, c, he5, O5, h5, hK, hl, k5⟩ => ?_
    obtain ⟨b5, o5⟩ := ChR.base b4 o4 (by decide) k5
    rw [hms] at hl he5
    obtain ⟨bb, rfl, hcs⟩ := li_cell hl (by decide)
    refine ⟨bb, c, he5, hcs 0 (by decide), hcs 1 (by decide), hcs 11 (by decide), hcs 12 (by decide), ?_⟩
    refine (wants_any h5 1 4).mono fun e w6 h6 => ?_
    obtain ⟨h6, rfl⟩ := h6
    rw [hwa] at h6
    exact ⟨h6, b5⟩
  go_enter Try.func7, Try.ntmps7
  go_wp2_with (first
    | (go_at_call 16; refine HC.out.mono ?_; rintro e w1 ⟨rfl, HN⟩)
    | (go_at_call 6; refine HN.out.mono ?_; rintro e w2 ⟨sb, rfl, qb, W3, HQB, HW3, HL⟩)
    | (rw [HW3.out, HQB.out]; clear HW3)
    | (go_at_call 9; refine HL.out.mono ?_; rintro e w4 ⟨rfl, HT⟩)
    | (go_at_call 8; refine HT.out.mono ?_; rintro e w5 ⟨b, c, rfl, c0, c1, c11, c12, HWA⟩)
    | (go_at_call 13; refine HWA.out.mono ?_; rintro e w6 ⟨rfl, HS⟩))
  go_ret
  exact ⟨rfl, HS⟩
end Go.Proofs.Ytflppkmicgglfaa

/- Package settle: the law's helpers: without. -/
namespace Go.Proofs.Ytflppkmicgglfaa
open Go.RowKit
set_option maxRecDepth 100000
set_option maxRecDepth 100000
/-- Entries as cells. -/
def enF (l : List Ent) (j : Nat) : Value := entCell (l.getD (j / 4) ent0) (j % 4)
theorem infoEN : (Try.prog.info? 55).map (fun i => (i.zero, i.size, i.bytes)) = some (some (.agg #[.int .i64 0, .int .u64 0, .string ⟨#[]⟩, .int .u64 0]), 4, 40) := by kernel_rfl
theorem enF_app (l : List Ent) (e : Ent) (j : Nat) (hj : j < (l.length + 1) * 4) : (if j < l.length * 4 then enF l j else (entL e).getD (j - l.length * 4) undef) = enF (l ++ [e]) j := by
  unfold enF
  by_cases h : j < l.length * 4
  · rw [if_pos h]
    have : j / 4 < l.length := by omega
    rw [List.getD_eq_getElem?_getD, List.getD_eq_getElem?_getD, List.getElem?_append_left this]
  · rw [if_neg h]
    have h2 : j / 4 = l.length := by omega
    have h5 : (l ++ [e]).getD l.length ent0 = e := by simp [List.getD_eq_getElem?_getD]
    rw [h2, h5]
    have h3 : j - l.length * 4 = j % 4 := by omega
    rw [h3]
    have h4 : j % 4 < 4 := Nat.mod_lt _ (by decide)
    generalize j % 4 = i at *
    match i, h4 with
    | 0, _ => rfl
    | 1, _ => rfl
    | 2, _ => rfl
    | 3, _ => rfl
/-- A list of entries of the law's own. -/
def Qu (O : Nat → Nat) (c : Nat) (w : World) (v : Value) (l : List Ent) : Prop := Li O c w 55 4 v l.length (enF l) ∧ ∀ e ∈ l, e.nu < 18446744073709551616 ∧ e.am < 18446744073709551616
theorem Qu.q {O : Nat → Nat} {c : Nat} {w : World} {a : Option Addr} {cap : Nat} {l : List Ent} (h : Qu O c w (.slice a l.length cap) l) : QIn w a l := by
  refine ⟨fun j e he => ?_, h.2⟩
  have hj : j < l.length := (List.getElem?_eq_some_iff.1 he).1
  obtain ⟨b, cp, F, hv, h1, h2, h3, h4⟩ := h.1.at' (by omega)
  injection hv with ha _ _
  refine ⟨b, 0, ha, fun i v hi => ?_, h3.1.lt⟩
  have hi4 : i < 4 := (List.getElem?_eq_some_iff.1 hi).1
  have hm := Nat.mul_le_mul_right 4 h1
  rw [h3.1.cell (i := 0 + j * 4 + i) (by omega), h4 _ (by omega), ← hi]
  have e1 : (0 + j * 4 + i) / 4 = j := by omega
  have e2 : (0 + j * 4 + i) % 4 = i := by omega
  unfold enF
  rw [e1, e2, List.getD_eq_getElem?_getD, he]
  match i, hi4 with
  | 0, _ => rfl
  | 1, _ => rfl
  | 2, _ => rfl
  | 3, _ => rfl
theorem Qu.nil (O : Nat → Nat) (c : Nat) (w : World) : Qu O c w (.slice none 0 0) [] := ⟨Li.nil _ _ _ _ _ _, fun e he => by cases he⟩
theorem Qu.keep {O O' : Nat → Nat} {c x : Nat} {w w' : World} {v : Value} {l : List Ent} (h : Qu O c w v l) (k : Ch x O O' w w') (hx : c ≠ x) : Qu O' c w' v l := ⟨h.1.keep k hx, h.2⟩
theorem Qu.keepR {O O' : Nat → Nat} {c lo hi : Nat} {w w' : World} {v : Value} {l : List Ent} (h : Qu O c w v l) (k : ChR lo hi O O' w w') (hx : c < lo ∨ hi ≤ c) : Qu O' c w' v l := ⟨h.1.keepR k hx, h.2⟩
theorem entL_one (e : Ent) : ∀ u ∈ entL e, u.oneCell' = true := fun u hu => by
  unfold entL at hu
  simp only [List.mem_cons, List.not_mem_nil, or_false] at hu
  rcases hu with rfl | rfl | rfl | rfl <;> rfl
/-- One entry more. -/
theorem Qu.app {O : Nat → Nat} {c : Nat} {w : World} {a : Option Addr} {cap : Nat} {l : List Ent} (h : Qu O c w (.slice a l.length cap) l) (e : Ent) (he : e.nu < 18446744073709551616 ∧ e.am < 18446744073709551616) (hl : l.length ≤ 1000000000000) :
    ∃ a' c' w', (Builtin.append_ #[28, 28] 28 #[.slice a l.length cap, .slice (some ⟨w.heap.size, 0, none⟩) 1 1]).run Try.prog (w.alloc (.cells (entL e).toArray 55)) = .ok (.slice a' (l.length + 1) c') w' ∧ ∃ O', Qu O' c w' (.slice a' (l.length + 1) c') (l ++ [e]) ∧ Ch c O O' w w' := by
  obtain ⟨v', w', e1, k, hl'⟩ := h.1.app (P := Try.prog) Try.underlying28 infoEN rfl (by decide) (entL e) rfl (entL_one e) (by omega) (by omega)
  obtain ⟨a', c', rfl⟩ := hl'.form
  refine ⟨a', c', w', e1, _, ⟨?_, fun x hx => ?_⟩, k⟩
  · rw [List.length_append]
    exact hl'.congr fun j hj => enF_app l e j hj
  · rcases List.mem_append.1 hx with hx | hx
    · exact h.2 x hx
    · rw [List.mem_singleton.1 hx]; exact he
theorem woM_skip (l : List Ent) (q : Int) (k j : Nat) (e : Ent) (he : l[j]? = some e) (hk : (!(e.p == q) || decide (k < e.nu)) = false) : woM (l.take (j + 1)) q k = woM (l.take j) q k := by
  unfold woM
  rw [List.take_add_one, he, List.filter_append]
  show _ ++ List.filter _ [e] = _
  rw [List.filter_cons_of_neg (by rw [hk]; simp)]
  simp
theorem woM_take (l : List Ent) (q : Int) (k j : Nat) (e : Ent) (he : l[j]? = some e) (hk : (!(e.p == q) || decide (k < e.nu)) = true) : woM (l.take (j + 1)) q k = woM (l.take j) q k ++ [e] := by
  unfold woM
  rw [List.take_add_one, he, List.filter_append]
  show _ ++ List.filter _ [e] = _
  rw [List.filter_cons_of_pos (by rw [hk])]
  rfl
set_option maxHeartbeats 4000000 in
theorem without_any {w : World} {qa : Option Addr} {qc : Nat} {l : List Ent} (h : QIn w qa l) (hl : l.length ≤ 1000000) (q : Int) (k : Nat) :
    Calls Try.prog 15 #[.slice qa l.length qc, .int .i64 q, .int .u64 (k : Nat)] w fun e w' => ∃ a c, e = .returned (.slice a (woM l q k).length c) ∧ Hid (∃ O, Qu O 1 w' (.slice a (woM l q k).length c) (woM l q k) ∧ (∀ b, b < w.heap.size → O b = 0) ∧ w.Since w.heap.size w') := by
  obtain ⟨L, hL⟩ : ∃ L, l.length = L := ⟨_, rfl⟩
  have HQ := hide h
  have HL := hide hL
  have HB := hide hl
  rw [hL]
  clear h hL hl
  go_enter Try.func15, Try.ntmps15
  go_wp2_with fail
  go_loopg [7, 8] L (fun g s7 s8 wx => ∃ (j K : Nat) (a : Option Addr) (c : Nat), j ≤ L ∧ g = L - j ∧ s7 = .slice a K c ∧ s8 = .int .i64 (j : Nat) ∧ Hid (K = (woM (l.take j) q k).length ∧ ∃ O, Qu O 1 wx (.slice a K c) (woM (l.take j) q k) ∧ (∀ b, b < w.heap.size → O b = 0) ∧ w.Since w.heap.size wx))
  case atStart => exact ⟨0, 0, none, 0, Nat.zero_le _, rfl, rfl, rfl, rfl, fun _ => 0, Qu.nil _ _ _, fun _ _ => rfl, World.Since.refl _ _⟩
  case round =>
    obtain ⟨j, K, a, c, hj, rfl, rfl, rfl, HX⟩ := hrel
    by_cases hlt : j < L
    · have z1 : (j : Int) < (L : Int) := by omega
      have z0 : (0 : Int) ≤ (j : Int) := by omega
      have hwi : IntKind.i64.wrap ((j : Int) + 1) = (j : Int) + 1 := by have := HL.out; have := HB.out; rw [IntKind.wrap_i64]; omega
      have hme : L - (j + 1) < L - j := by omega
      have HJ := hide hlt
      obtain ⟨e, he⟩ : ∃ e, l[j]? = some e := ⟨_, List.getElem?_eq_getElem (by have := HL.out; omega)⟩
      have HE := hide he
      obtain ⟨b, o, rfl, c0, c1, HRG⟩ : ∃ b o, qa = some ⟨b, o, none⟩ ∧ wr.cell? ⟨b, o + j * 4, none⟩ = some (.int .i64 e.p) ∧ wr.cell? ⟨b, o + j * 4 + 1, none⟩ = some (.int .u64 (e.nu : Nat)) ∧ Hid (wr.rangeAt b (o + j * 4) [.int .i64 e.p, .int .u64 (e.nu : Nat), .string (strL e.na), .int .u64 (e.am : Nat)]) := by
        obtain ⟨_, O, h2, h3, h4⟩ := HX.out
        obtain ⟨b, o, rfl, hrg, hbl⟩ := (HQ.out.since h4).at' j e he
        exact ⟨b, o, rfl, hrg 0 _ rfl, hrg 1 _ rfl, hrg⟩
      have HIL : Hid ((Try.prog.info? 55).map (·.size) = some [Value.int .i64 e.p, .int .u64 (e.nu : Nat), .string (strL e.na), .int .u64 (e.am : Nat)].length) := infoE4
      by_cases hk : (!(e.p == q) || decide (k < e.nu)) = true
      · obtain ⟨a', c', w', HP, HK⟩ : ∃ a' c' w', Hid ((Builtin.append_ #[28, 28] 28 #[.slice a K c, .slice (some ⟨wr.heap.size, 0, none⟩) 1 1]).run Try.prog (wr.alloc (.cells #[.int .i64 e.p, .int .u64 (e.nu : Nat), .string (strL e.na), .int .u64 (e.am : Nat)] 55)) = .ok (.slice a' (K + 1) c') w') ∧ Hid (K + 1 = (woM (l.take (j + 1)) q k).length ∧ ∃ O, Qu O 1 w' (.slice a' (K + 1) c') (woM (l.take (j + 1)) q k) ∧ (∀ b, b < w.heap.size → O b = 0) ∧ w.Since w.heap.size w') := by
          obtain ⟨rfl, O, h2, h3, h4⟩ := HX.out
          have hb : e ∈ l := List.mem_of_getElem? he
          obtain ⟨a', c', w', e1, O', h5, k5⟩ := h2.app e (HQ.out.ok e hb) (by
            have : (woM (l.take j) q k).length ≤ (l.take j).length := List.length_filter_le _ _
            rw [List.length_take] at this
            have := HL.out; have := HB.out
            omega)
          obtain ⟨b6, z6⟩ := k5.base h4 h3 (by decide)
          rw [woM_take l q k j e he hk]
          exact ⟨a', c', w', e1, by rw [List.length_append]; rfl, O', h5, z6, b6⟩
        clear HX he hj hlt
        by_cases hp : e.p = q
        · have q0 : (e.p != q) = false := by simp [hp]
          have q1 : decide (k < e.nu) = true := by
            have q2 : (e.p == q) = true := by simp [hp]
            rw [q2] at hk
            simp at hk
            exact decide_eq_true (by omega)
          clear hk hp
          go_wp2_with (first
            | (refine wpList_load_mid rfl 55 _ rfl b (o + j * 4) rfl _ _ HRG.out Try.underlying55 rfl HIL.out ?_)
            | (at_builtin; refine wpList_append_eq rfl _ _ 28 rfl _ _ _ (by rfl) (by rfl) HP.out ?_))
          go_roundg (L - (j + 1))
          case measure => go_light; exact hme
          case rel => go_light; exact ⟨j + 1, K + 1, a', c', HJ.out, rfl, rfl, by simp, HK⟩
        · have q0 : (e.p != q) = true := by simp [hp]
          clear hk hp
          go_wp2_with (first
            | (refine wpList_load_mid rfl 55 _ rfl b (o + j * 4) rfl _ _ HRG.out Try.underlying55 rfl HIL.out ?_)
            | (at_builtin; refine wpList_append_eq rfl _ _ 28 rfl _ _ _ (by rfl) (by rfl) HP.out ?_))
          go_roundg (L - (j + 1))
          case measure => go_light; exact hme
          case rel => go_light; exact ⟨j + 1, K + 1, a', c', HJ.out, rfl, rfl, by simp, HK⟩
      · have hk' : (!(e.p == q) || decide (k < e.nu)) = false := by simpa using hk
        have HK : Hid (K = (woM (l.take (j + 1)) q k).length ∧ ∃ O, Qu O 1 wr (.slice a K c) (woM (l.take (j + 1)) q k) ∧ (∀ b, b < w.heap.size → O b = 0) ∧ w.Since w.heap.size wr) := by
          have := HX.out
          rw [← woM_skip l q k j e he hk'] at this
          exact this
        have hp : e.p = q := by
          refine Classical.byContradiction fun h => ?_
          have q2 : (e.p == q) = false := by simp [h]
          rw [q2] at hk'
          simp at hk'
        have q0 : (e.p != q) = false := by simp [hp]
        have q1 : decide (k < e.nu) = false := by
          have q2 : (e.p == q) = true := by simp [hp]
          rw [q2] at hk'
          simp at hk'
          exact decide_eq_false (by omega)
        clear HX he hj hlt hk hk' hp HRG HIL
        go_wp2_with fail
        go_roundg (L - (j + 1))
        case measure => go_light; exact hme
        case rel => go_light; exact ⟨j + 1, K, a, c, HJ.out, rfl, rfl, by simp, HK⟩
    · obtain rfl : j = L := by omega
      have z1 : ¬ (j : Int) < (j : Int) := by omega
      clear hj hlt
      have HK : Hid (K = (woM l q k).length ∧ ∃ O, Qu O 1 wr (.slice a K c) (woM l q k) ∧ (∀ b, b < w.heap.size → O b = 0) ∧ w.Since w.heap.size wr) := by
        have := HX.out
        rw [← HL.out, List.take_length] at this
        exact this
      clear HX
      go_wp2_with fail
      go_ret
      obtain ⟨hk, hr⟩ := HK.out
      rw [← hk]
      exact ⟨a, c, rfl, hr⟩
end Go.Proofs.Ytflppkmicgglfaa

/- Package settle: the law's helpers: laid. -/
namespace Go.Proofs.Ytflppkmicgglfaa
open Go.RowKit
set_option maxRecDepth 100000
set_option maxRecDepth 100000
theorem results_cell_row_tmp2 {P : Program} {fn : Func} {p u u2 : Tmp} {ty : TypeId} (h : fn.results = #[.cell p ty, .tmp u, .tmp u2]) (tmps : Array Value) (w : World) (g : Nat) (t : TypeId) (cs : Array Value) (fr : Nat × Nat) (d : TypeDesc)
    (hp : tmps.getD p undef = .pointer (some ⟨g, 0, none⟩)) (hg : w.heap[g]? = some (.cells cs t fr))
    (hu : P.underlying ty = some d) (hd : (match d with | .struct _ | .array _ _ => true | _ => false) = true) (hi : (P.info? ty).map (·.size) = some cs.size) (v v2 : Value) (hv : tmps.getD u undef = v) (hv2 : tmps.getD u2 undef = v2) :
    (results fn tmps).run P w = .ok (.tuple #[.agg cs, v, v2]) w := by
  have e : (results fn tmps).run P w = ((asAddr (tmps.getD p undef)).run P w).andThen fun a w₁ => ((loadVar ty a).run P w₁).andThen fun v w₂ => .ok (.tuple #[v, tmps.getD u undef, tmps.getD u2 undef]) w₂ := by
    simp only [results, h]
    simp [Sem.run_bind, Result.andThen]
  rw [e, hp, hv, hv2]
  simp [asAddr, run_loadVar_row w g t ty cs fr d hg hu hd hi, Result.andThen]
/-- A list of numbers, handed in. -/
def IL (W : World) (a : Option Addr) (l : List Int) : Prop := ∀ i x, l[i]? = some x → ∃ b o, a = some ⟨b, o, none⟩ ∧ W.cell? ⟨b, o + i, none⟩ = some (.int .i64 x) ∧ b < W.heap.size
theorem IL.since {W W' : World} {a : Option Addr} {l : List Int} (h : IL W a l) (s : W.Since W.heap.size W') : IL W' a l := fun i x hx => by
  obtain ⟨b, o, e, hc, hb⟩ := h i x hx
  exact ⟨b, o, e, by rw [World.cell?_of_block (a := ⟨b, o + i, none⟩) (s.block b hb)]; exact hc, Nat.lt_of_lt_of_le hb s.size⟩
/-- What is laid: the entries' peers, their numbers, how many each peer has. -/
def LaidQ (n own : Nat) (l : List Ent) (nx : Nat → Nat) : Prop := (∀ e ∈ l, ∃ i : Nat, i < n ∧ i ≠ own ∧ e.p = (i : Int)) ∧ ∀ i, i < n → Row1 (ofP l i) 0 ∧ nx i = (ofP l i).length
theorem LaidQ.app {n own : Nat} {l : List Ent} {nx : Nat → Nat} (h : LaidQ n own l nx) (k : Nat) (hk : k < n) (ho : k ≠ own) (na : List Nat) (am : Nat) : LaidQ n own (l ++ [⟨(k : Int), nx k + 1, na, am⟩]) (up nx k (nx k + 1)) := by
  refine ⟨fun e he => ?_, fun i hi => ?_⟩
  · rcases List.mem_append.1 he with he | he
    · exact h.1 e he
    · rw [List.mem_singleton.1 he]; exact ⟨k, hk, ho, rfl⟩
  · obtain ⟨h1, h2⟩ := h.2 i hi
    by_cases e : i = k
    · subst e
      have : ofP (l ++ [⟨(i : Int), nx i + 1, na, am⟩]) i = ofP l i ++ [⟨(i : Int), nx i + 1, na, am⟩] := by unfold ofP; rw [List.filter_append]; simp
      rw [this, up_same]
      exact ⟨h1.snoc (by show nx i + 1 = _; rw [h2]; omega), by rw [List.length_append, h2]; rfl⟩
    · have : ofP (l ++ [⟨(k : Int), nx k + 1, na, am⟩]) i = ofP l i := by unfold ofP; rw [List.filter_append]; simp; omega
      rw [this, up_ne _ _ _ e]
      exact ⟨h1, h2⟩
theorem infoU : (Try.prog.info? 45).map (fun i => (i.zero, i.size, i.bytes)) = some (some (.int .u64 0), 1, 8) := by kernel_rfl
/-- Where the loop of laid stands. -/
def LdL (w0 : World) (n own nb : Nat) (a : Option Addr) (c K : Nat) (W : World) : Prop := ∃ O l nx, K = l.length ∧ K ≤ 16 ∧ Qu O 1 W (.slice a K c) l ∧ RowC O 2 W nb 45 n (fun i => .int .u64 (nx i : Nat)) ∧ (∀ k, k < w0.heap.size → O k = 0) ∧ w0.Since w0.heap.size W ∧ LaidQ n own l nx
theorem LdL.start {w0 : World} {n own : Nat} : LdL w0 n own w0.heap.size none 0 0 (w0.alloc (.cells (madeCells #[.int .u64 0] n) 45)) := by
  have hr : (w0.alloc (.cells (madeCells #[.int .u64 0] n) 45)).rowIs w0.heap.size 45 n (fun _ => .int .u64 0) := World.rowIs_made w0 _ n _
  exact ⟨fun k => if k < w0.heap.size then 0 else 2, [], fun _ => 0, rfl, by decide, Qu.nil _ _ _, ⟨hr, if_neg (Nat.lt_irrefl _)⟩, fun k hk => if_pos hk, (World.Since.refl _ _).alloc (Nat.le_refl _) _, (by unfold LaidQ; exact ⟨fun e he => (by cases he), fun i _ => ⟨trivial, rfl⟩⟩)⟩
theorem LdL.cnt {w0 W : World} {n own nb c K : Nat} {a : Option Addr} (h : LdL w0 n own nb a c K W) (k : Nat) (hk : k < n) : ∃ x : Nat, W.cell? ⟨nb, k, none⟩ = some (.int .u64 (x : Nat)) ∧ x ≤ 16 ∧ W.frozen? ⟨nb, k, none⟩ = false := by
  obtain ⟨O, l, nx, rfl, h16, _, hr, _, _, hq⟩ := h
  have h2 := (hq.2 k hk).2
  have h3 : (ofP l k).length ≤ l.length := List.length_filter_le _ _
  exact ⟨nx k, hr.1.cell hk, by omega, hr.1.frozen k⟩
/-- An entry more: the peer's number is one on, then it is appended. -/
theorem LdL.step {w0 W : World} {n own nb c K : Nat} {a : Option Addr} (h : LdL w0 n own nb a c K W) (hK : K < 16) (k : Nat) (hk : k < n) (ho : k ≠ own) (x : Nat) (hx : W.cell? ⟨nb, k, none⟩ = some (.int .u64 (x : Nat))) (x1 : Nat) (hx1 : x1 = x + 1) (y z : Nat) (hy : y = 97 + K) (hz : z = 10 + K) :
    ∃ W1 W2 : World, Hid (W.setCell ⟨nb, k, none⟩ (.int .u64 (x1 : Nat)) = W1) ∧ W1.drew.cell? ⟨nb, k, none⟩ = some (.int .u64 (x1 : Nat)) ∧ Hid (W1.drew.alloc (.cells #[.int .u8 (y : Nat)] 5) = W2) ∧ W2.cell? ⟨nb, k, none⟩ = some (.int .u64 (x1 : Nat)) ∧ Hid ((convert 48 9 (.slice (some ⟨W1.drew.heap.size, 0, none⟩) 1 1)).run Try.prog W2 = .ok (.string (strL [y])) W2) ∧
      ∃ W3, Hid (W2.alloc (.cells #[.int .i64 (k : Nat), .int .u64 (x1 : Nat), .string (strL [y]), .int .u64 (z : Nat)] 55) = W3) ∧ W3.cell? ⟨nb, k, none⟩ = some (.int .u64 (x1 : Nat)) ∧ ∃ a' c' W4, Hid ((Builtin.append_ #[28, 28] 28 #[.slice a K c, .slice (some ⟨W2.heap.size, 0, none⟩) 1 1]).run Try.prog W3 = .ok (.slice a' (K + 1) c') W4) ∧ W4.cell? ⟨nb, k, none⟩ = some (.int .u64 (x1 : Nat)) ∧ Hid (LdL w0 n own nb a' c' (K + 1) W4) := by
  subst hy hz
  obtain ⟨O, l, nx, rfl, h16, hq, hr, hO, hs, hl⟩ := h
  have hxk : x = nx k := by
    have := (hr.1.cell hk).symm.trans hx
    have := Option.some.inj this
    injection this with _ e
    omega
  have hnk : nx k + 1 ≤ 17 := by
    have h2 := (hl.2 k hk).2
    have h3 : (ofP l k).length ≤ l.length := List.length_filter_le _ _
    omega
  have k1 : Ch 2 O O W (W.setCell ⟨nb, k, none⟩ (.int .u64 (x1 : Nat))) := Ch.set hr.2 _ _
  have r1 := (hr.set k (.int .u64 (x1 : Nat)))
  have q1 := hq.keep k1 (by decide)
  obtain ⟨b1, z1⟩ := k1.base hs hO (by decide)
  generalize hW1 : W.setCell ⟨nb, k, none⟩ (.int .u64 (x1 : Nat)) = W1 at *
  have s2 : W1.Since W1.heap.size (W1.drew.alloc (.cells #[.int .u8 (97 + l.length : Nat)] 5)) := (World.Since.refl _ _).drew.alloc (Nat.le_refl _) _
  have k2 : Ch 5 O O W1 (W1.drew.alloc (.cells #[.int .u8 (97 + l.length : Nat)] 5)) := Ch.since s2
  have hcv : (convert 48 9 (.slice (some ⟨W1.drew.heap.size, 0, none⟩) 1 1)).run Try.prog (W1.drew.alloc (.cells #[.int .u8 (97 + l.length : Nat)] 5)) = .ok (.string (strL [97 + l.length])) (W1.drew.alloc (.cells #[.int .u8 (97 + l.length : Nat)] 5)) := by
    have := run_convert_bytes_back (P := Try.prog) (W1.drew.alloc (.cells #[.int .u8 (97 + l.length : Nat)] 5)) 48 9 5 ⟨W1.drew.heap.size, 0, none⟩ 1 [UInt8.ofNat (97 + l.length)] Try.underlying48 Try.underlying5 Try.underlying9 (fun j hj => by
      have hj0 : j = 0 := by simpa using hj
      subst hj0
      have e : (UInt8.ofNat (97 + l.length)).toNat = 97 + l.length := by rw [UInt8.toNat_ofNat']; omega
      show _ = some (Value.int .u8 ((UInt8.ofNat (97 + l.length)).toNat : Int))
      rw [e]
      exact World.cell?_alloc_at (w := W1.drew) _ _ _ 0 rfl)
    exact this
  have r2 := r1.keep k2 (by decide)
  have q2 := q1.keep k2 (by decide)
  obtain ⟨b2, z2⟩ := k2.base b1 z1 (by decide)
  generalize hW2 : W1.drew.alloc (.cells #[.int .u8 (97 + l.length : Nat)] 5) = W2 at *
  have s3 : W2.Since W2.heap.size (W2.alloc (.cells (entL ⟨(k : Int), x1, [97 + l.length], 10 + l.length⟩).toArray 55)) := (World.Since.refl _ _).alloc (Nat.le_refl _) _
  obtain ⟨a', c', W4, e4, O4, q4, k4⟩ := q2.app ⟨(k : Int), x1, [97 + l.length], 10 + l.length⟩ ⟨by show x1 < _; omega, by show 10 + l.length < _; omega⟩ (by omega)
  have r4 := r2.keep k4 (by decide)
  obtain ⟨b4, z4⟩ := k4.base b2 z2 (by decide)
  have hc : ∀ (W' : World) O', RowC O' 2 W' nb 45 n (fun j => if j = k then .int .u64 (x1 : Nat) else .int .u64 (nx j : Nat)) → W'.cell? ⟨nb, k, none⟩ = some (.int .u64 (x1 : Nat)) := fun W' O' h => by
    rw [h.1.cell hk, if_pos rfl]
  refine ⟨W1, W2, rfl, ?_, hW2, hc _ _ r2, hcv, _, rfl, hc _ O (r2.keep (x := 5) (Ch.since s3) (by decide)), a', c', W4, e4, hc _ _ r4, O4, _, up nx k x1, ?_, ?_, q4, ?_, z4, b4, ?_⟩
  · exact hc _ O (r1.keep (x := 5) (Ch.since ((World.Since.refl _ _).drew)) (by decide))
  · rw [List.length_append]; rfl
  · omega
  · refine ⟨r4.1.congr fun j hj => ?_, r4.2⟩
    show (if j = k then Value.int .u64 (x1 : Nat) else .int .u64 (nx j : Nat)) = .int .u64 ((if j = k then x1 else nx j : Nat) : Nat)
    split <;> rfl
  · have := hl.app k hk ho [97 + l.length] (10 + l.length)
    rw [hx1, hxk]
    exact this
theorem LdL.drewN {w0 W : World} {n own nb c K : Nat} {a : Option Addr} (h : LdL w0 n own nb a c K W) (q : Nat) : LdL w0 n own nb a c K (W.drewN q) := by
  obtain ⟨O, l, nx, h1, h16, hq, hr, hO, hs, hl⟩ := h
  have k : Ch 5 O O W (W.drewN q) := Ch.since ⟨rfl, rfl, rfl, Nat.le_refl _, fun _ _ => rfl⟩
  exact ⟨O, l, nx, h1, h16, hq.keep k (by decide), hr.keep k (by decide), hO, (k.base hs hO (by decide)).1, hl⟩
/-- What laid leaves. -/
def LaidE (w w' : World) (nodes n c m own K qc : Nat) (a : Option Addr) : Prop := (1 ≤ nodes ∧ nodes ≤ 9 ∧ 1 ≤ n ∧ n ≤ 8 ∧ 1 ≤ c ∧ c ≤ 7 ∧ 1 ≤ m ∧ m ≤ 64) ∧ (∀ i : Nat, i < n → goodM i nodes c) ∧ own < n ∧ ∃ O l nx, K = l.length ∧ K ≤ 16 ∧ Qu O 1 w' (.slice a K qc) l ∧ LaidQ n own l nx ∧ (∀ k, k < w.heap.size → O k = 0) ∧ w.Since w.heap.size w'
theorem infoLd (a0 a1 a2 a3 a4 v5 v6 v7 : Value) : (Try.prog.info? 24).map (·.size) = some [a0, a1, a2, a3, a4, v5, v6, v7].length := by kernel_rfl
set_option maxHeartbeats 8000000 in
theorem laid_any {w : World} (a0 a1 a2 a3 a4 : Int) {ma : Option Addr} {mc : Nat} {ms : List Int} (hM : IL w ma ms) (hm : ms.length ≤ 20000000000000) (v6 v7 : Value) :
    Calls Try.prog 5 #[.agg #[.int .i64 a0, .int .i64 a1, .int .i64 a2, .int .i64 a3, .int .i64 a4, .slice ma ms.length mc, v6, v7]] w fun e w' => ∃ nodes n c m own a qc K, e = .returned (.tuple #[.agg (cfgA nodes n c m), .int .i64 (own : Nat), .slice a K qc]) ∧ Hid (LaidE w w' nodes n c m own K qc a) := by
  obtain ⟨W0, HW0⟩ : ∃ W, Hid (w.alloc (.cells #[.int .i64 a0, .int .i64 a1, .int .i64 a2, .int .i64 a3, .int .i64 a4, .slice ma ms.length mc, v6, v7] 24) = W) := ⟨_, rfl⟩
  have s0 : w.Since w.heap.size W0 := by rw [← HW0.out]; exact (World.Since.refl _ _).alloc (Nat.le_refl _) _
  have p0 : W0.cell? ⟨w.heap.size, 0, none⟩ = some (.int .i64 a0) := by rw [← HW0.out]; exact World.cell?_alloc_at (w := w) _ _ _ 0 rfl
  have p1 : W0.cell? ⟨w.heap.size, 1, none⟩ = some (.int .i64 a1) := by rw [← HW0.out]; exact World.cell?_alloc_at (w := w) _ _ _ 1 rfl
  have p2 : W0.cell? ⟨w.heap.size, 2, none⟩ = some (.int .i64 a2) := by rw [← HW0.out]; exact World.cell?_alloc_at (w := w) _ _ _ 2 rfl
  have p3 : W0.cell? ⟨w.heap.size, 3, none⟩ = some (.int .i64 a3) := by rw [← HW0.out]; exact World.cell?_alloc_at (w := w) _ _ _ 3 rfl
  have p4 : W0.cell? ⟨w.heap.size, 4, none⟩ = some (.int .i64 a4) := by rw [← HW0.out]; exact World.cell?_alloc_at (w := w) _ _ _ 4 rfl
  have p5 : W0.cell? ⟨w.heap.size, 5, none⟩ = some (.slice ma ms.length mc) := by rw [← HW0.out]; exact World.cell?_alloc_at (w := w) _ _ _ 5 rfl
  obtain ⟨W1, HW1, s1, f1, r1⟩ := cfg_alloc W0
  obtain ⟨pb, HPB⟩ : ∃ x, Hid (w.heap.size = x) := ⟨_, rfl⟩
  obtain ⟨rb, HRB⟩ : ∃ x, Hid (W0.heap.size = x) := ⟨_, rfl⟩
  rw [HPB.out] at p0 p1 p2 p3 p4 p5
  have q0 := cell_later s1 p0
  have q1 := cell_later s1 p1
  have q2 := cell_later s1 p2
  have q3 := cell_later s1 p3
  rw [HRB.out] at r1
  have HRR := hide r1
  have s01 := s0.trans (since_mono s1 s0.size)
  obtain ⟨ML, HML⟩ : ∃ x, Hid (ms.length = x) := ⟨_, rfl⟩
  rw [HML.out] at p5 HW0
  have HIM := hide (hM.since s01)
  have HS00 := hide s0
  have HS1 := hide s1
  have HS01 := hide s01
  have HM := hide hm
  -- the configuration, and where it is kept
  have HCF : Hid (Calls Try.prog 16 #[.int .i64 a0, .int .i64 a1, .int .i64 a2, .int .i64 a3] W1 fun e w2 => ∃ nodes n c m CF, e = .returned (.agg CF) ∧ Hid (cfgA nodes n c m = CF) ∧ Hid ((1 ≤ nodes ∧ nodes ≤ 9 ∧ 1 ≤ n ∧ n ≤ 8 ∧ 1 ≤ c ∧ c ≤ 7 ∧ 1 ≤ m ∧ m ≤ 64) ∧ (∀ i : Nat, i < n → goodM i nodes c)) ∧
      ∃ vb W3 W4, Hid (w2.heap.size = vb) ∧ Hid (w2.alloc (.cells #[.int .i64 0, .int .i64 0, .int .i64 0, .int .i64 0, .int .i64 0, .int .i64 0, .int .i64 0, .int .i64 0, .slice none 0 0] 27) = W3) ∧ Hid (W3.there vb 0 CF.size) ∧ Hid ((Try.prog.info? 27).map (·.size) = some CF.size) ∧ Hid (CF.all (·.oneCell') = true) ∧ Hid (W3.setCells vb 0 CF.toList = W4) ∧ W4.cell? ⟨vb, 1, none⟩ = some (.int .i64 (n : Nat)) ∧ W4.cell? ⟨pb, 4, none⟩ = some (.int .i64 a4) ∧ Hid (W4.cell? ⟨pb, 5, none⟩ = some (.slice ma ML mc) ∧ W4.rangeAt vb 0 CF.toList ∧ vb < W4.heap.size ∧ W4.rowIs rb 27 9 f1 ∧ w.Since w.heap.size W4 ∧ IL W4 ma ms)) := by
    refine (config_any a0 a1 a2 a3 W1).mono fun e w2 ⟨nodes, n, c, m, he, hh⟩ => ?_
    obtain ⟨_, hb, hg, s2⟩ := hh.out
    obtain ⟨W3, HW3, s3, f3, r3⟩ := cfg_alloc w2
    have s3' : w2.Since w2.heap.size (W3.setCells w2.heap.size 0 (cfgA nodes n c m).toList) := since_setCells (Nat.le_refl _) _ _ _ s3
    have r4 := cfg_row r3 nodes n c m
    have z0 := HS01.out.size
    have s13 : W1.Since W1.heap.size (W3.setCells w2.heap.size 0 (cfgA nodes n c m).toList) := s2.trans (since_mono s3' s2.size)
    have hlt := r4.lt
    have t1 : W3.there w2.heap.size 0 (cfgA nodes n c m).size := row_there r3
    have t2 : (cfgA nodes n c m).all (·.oneCell') = true := by kernel_rfl
    have t3 : (Try.prog.info? 27).map (·.size) = some (cfgA nodes n c m).size := infoC9
    obtain ⟨W4, hW4⟩ : ∃ W, W3.setCells w2.heap.size 0 (cfgA nodes n c m).toList = W := ⟨_, rfl⟩
    rw [hW4] at s3' r4 s13 hlt
    have t4 : W4.cell? ⟨w2.heap.size, 1, none⟩ = some (.int .i64 (n : Nat)) := r4.cell (i := 1) (by decide)
    have t5 := HS1.out.trans (since_mono s13 HS1.out.size)
    have t6 := HS01.out.trans (since_mono s13 HS01.out.size)
    have t7 := HIM.out.since s13
    have t8 := HRR.out.of_block (s13.block rb HRR.out.lt)
    have t9 := cfg_range r4
    have t10 := cell_later t5 p4
    have t11 := cell_later t5 p5
    refine ⟨nodes, n, c, m, _, he, rfl, ⟨hb, hg⟩, _, W3, W4, rfl, HW3, t1, t3, t2, hW4, t4, t10, t11, t9, hlt, t8, t6, t7⟩
  clear hM hm s0 s1 s01 p0 p1 p2 p3 p4 p5 r1
  go_enter Try.func5, Try.ntmps5
  go_upto_region 1 with (first | (rw [HML.out, HW0.out, HPB.out]; clear HW0) | (rw [HW1.out, HRB.out]; clear HW1))
  refine wp_region_lit ?_
  refine wpList_plain rfl fun _ hK => op_run (.pointer (some ⟨pb, 0, none⟩)) (by kernel_rfl) (hK _ _ ?_)
  simp only [Act.put, List.setIfInBounds_toArray, List.set_cons_zero, List.set_cons_succ]
  refine wpList_plain rfl fun _ hK => op_run (.int .i64 a0) (by go_simp) (hK _ _ ?_)
  simp only [Act.put, List.setIfInBounds_toArray, List.set_cons_zero, List.set_cons_succ]
  refine wpList_plain rfl fun _ hK => op_run (.pointer (some ⟨pb, 1, none⟩)) (by kernel_rfl) (hK _ _ ?_)
  simp only [Act.put, List.setIfInBounds_toArray, List.set_cons_zero, List.set_cons_succ]
  refine wpList_plain rfl fun _ hK => op_run (.int .i64 a1) (by go_simp) (hK _ _ ?_)
  simp only [Act.put, List.setIfInBounds_toArray, List.set_cons_zero, List.set_cons_succ]
  refine wpList_plain rfl fun _ hK => op_run (.pointer (some ⟨pb, 2, none⟩)) (by kernel_rfl) (hK _ _ ?_)
  simp only [Act.put, List.setIfInBounds_toArray, List.set_cons_zero, List.set_cons_succ]
  refine wpList_plain rfl fun _ hK => op_run (.int .i64 a2) (by go_simp) (hK _ _ ?_)
  simp only [Act.put, List.setIfInBounds_toArray, List.set_cons_zero, List.set_cons_succ]
  refine wpList_plain rfl fun _ hK => op_run (.pointer (some ⟨pb, 3, none⟩)) (by kernel_rfl) (hK _ _ ?_)
  simp only [Act.put, List.setIfInBounds_toArray, List.set_cons_zero, List.set_cons_succ]
  refine wpList_plain rfl fun _ hK => op_run (.int .i64 a3) (by go_simp) (hK _ _ ?_)
  simp only [Act.put, List.setIfInBounds_toArray, List.set_cons_zero, List.set_cons_succ]
  refine wpList_plain rfl fun _ hK => op_call 16 #[.int .i64 a0, .int .i64 a1, .int .i64 a2, .int .i64 a3] (by kernel_rfl) HCF.out ?_
  rintro e w2 ⟨nodes, n, c, m, CF, rfl, HC, HG, vb, W3, W4, HVB, HW3, HT, HI, HO, HW4, c1, c4, HZ⟩
  refine ⟨_, rfl, hK _ _ ?_⟩
  clear hK HCF
  simp only [Act.put, List.setIfInBounds_toArray, List.set_cons_zero, List.set_cons_succ]
  refine wpList_plain rfl fun _ hK => op_runW9 (w' := w2.alloc (.cells #[.int .i64 0, .int .i64 0, .int .i64 0, .int .i64 0, .int .i64 0, .int .i64 0, .int .i64 0, .int .i64 0, .slice none 0 0] 27)) (.pointer (some ⟨w2.heap.size, 0, none⟩)) (by kernel_rfl) ?_
  rw [HW3.out, HVB.out]
  refine hK _ _ ?_
  clear hK HW3
  simp only [Act.put, List.setIfInBounds_toArray, List.set_cons_zero, List.set_cons_succ]
  refine wpList_store_mid rfl 27 _ _ rfl vb 0 CF rfl rfl HT.out HI.out HO.out ?_
  rw [HW4.out]
  clear HT HO HW4 q0 q1 q2 q3
  have HIN : Hid (Calls Try.prog 12 #[.int .i64 a4, .int .i64 (n : Nat)] W4 fun e w' => ∃ own : Nat, e = .returned (.int .i64 (own : Nat)) ∧ Hid (own < n) ∧ W4 = w') :=
    (intoS_any a4 n (by have := HG.out.1; omega) (by have := HG.out.1; omega) W4).mono fun e w' ⟨h1, k, hk, hq, he⟩ => ⟨k, he, hk, h1⟩
  have HINK : Hid (∀ (x : Int) (W : World), Calls Try.prog 12 #[.int .i64 x, .int .i64 (n : Nat)] W fun e w' => e = .returned (.int .i64 ((x % (n : Int)).toNat : Nat)) ∧ w' = W) := fun x W =>
    (intoS_any x n (by have := HG.out.1; omega) (by have := HG.out.1; omega) W).mono fun e w' ⟨h1, k, hk, hq, he⟩ => ⟨by rw [he, ← hq]; rfl, h1.symm⟩
  go_upto_region 4 with (go_at_call 12; refine HIN.out.mono ?_; rintro e w5 ⟨own, rfl, HOW, rfl⟩)
  have hmk := run_make_row' (P := Try.prog) 37 45 (.int .u64 0) 8 Try.underlying37 infoU rfl .i64 .i64 n (by have := HG.out.1; omega) (by have := HG.out.1; omega)
  obtain ⟨W5, HW5⟩ : ∃ W, Hid (W4.alloc (.cells (madeCells #[.int .u64 0] n) 45) = W) := ⟨_, rfl⟩
  obtain ⟨nb, HNB⟩ : ∃ x, Hid (W4.heap.size = x) := ⟨_, rfl⟩
  have HL0 : Hid (LdL W4 n own nb none 0 0 W5) := by
    have := LdL.start (w0 := W4) (n := n) (own := own)
    rw [HW5.out, HNB.out] at this
    exact this
  clear HIN c4
  go_upto_region 5 with fail
  rw [HW5.out, HNB.out]
  clear HW5 HNB hmk
  go_wp2_with fail
  have HC1 := hide c1
  clear c1
  have HN8 := hide HG.out.1.2.2.2.1
  go_loopg [7, 9, 10] ML (fun g s7 s9 s10 wx => ∃ (j K : Nat) (a : Option Addr) (c : Nat), j ≤ ML ∧ g = ML - j ∧ s7 = .slice a K c ∧ s9 = .int .i64 (j : Nat) ∧ Hid (LdL W4 n own nb a c K wx))
  case atStart => exact ⟨0, 0, none, 0, Nat.zero_le _, rfl, rfl, rfl, HL0⟩
  case round =>
    clear HL0
    obtain ⟨j, K, a, qc, hj, rfl, rfl, rfl, HX⟩ := hrel
    have hsi : W4.Since W4.heap.size wr := by obtain ⟨_, _, _, _, _, _, _, _, h, _⟩ := HX.out; exact h
    have c5 : wr.cell? ⟨pb, 5, none⟩ = some (.slice ma ML mc) := cell_later hsi HZ.out.1
    have hK16 : K ≤ 16 := by obtain ⟨_, _, _, _, h, _⟩ := HX.out; exact h
    by_cases hlt : j < ML ∧ K < 16
    · obtain ⟨hlt, hk16⟩ := hlt
      have z1 : (j : Int) < (ML : Int) := by omega
      have z0 : (0 : Int) ≤ (j : Int) := by omega
      have z2 : (K : Int) < 16 := by omega
      have hwi : IntKind.i64.wrap ((j : Int) + 1) = (j : Int) + 1 := by have := HML.out; have := HM.out; rw [IntKind.wrap_i64]; omega
      have hme : ML - (j + 1) < ML - j := by omega
      have HJ := hide hlt
      obtain ⟨x, hx⟩ : ∃ x, ms[j]? = some x := ⟨_, List.getElem?_eq_getElem (by have := HML.out; omega)⟩
      obtain ⟨b, o, rfl, cx, _⟩ := (HZ.out.2.2.2.2.2.since hsi) j x hx
      have c1 : wr.cell? ⟨vb, 1, none⟩ = some (.int .i64 (n : Nat)) := cell_later hsi HC1.out
      obtain ⟨k, hk⟩ : ∃ k, (x % (n : Int)).toNat = k := ⟨_, rfl⟩
      have hkn : k < n := by have h1 := HG.out.1; have := Int.emod_nonneg x (show (n : Int) ≠ 0 by omega); have := Int.emod_lt_of_pos x (show (0 : Int) < (n : Int) by omega); omega
      have HKC : Hid (∀ q, Calls Try.prog 12 #[.int .i64 x, .int .i64 (n : Nat)] (wr.drewN q) fun e w' => e = .returned (.int .i64 (k : Nat)) ∧ w' = wr.drewN q) := fun q => by rw [← hk]; exact HINK.out x _
      go_upto_region 8 with fail
      go_quiet (with_reducible exact Calls.quiet_of_same (HKC.out _))
      have HXq := hide (HX.out.drewN nq)
      clear HX hsi c5 cx c1 hx HKC hk
      generalize wr.drewN nq = wq at *
      by_cases ho : k = own
      · have q0 : ((k : Int) == (own : Int)) = true := by simp [ho]
        go_wp2_with fail
        go_roundg (ML - (j + 1))
        case measure => go_light; exact hme
        case rel => go_light; exact ⟨j + 1, K, a, qc, HJ.out, rfl, rfl, by simp, HXq.out⟩
      · have q0 : ((k : Int) == (own : Int)) = false := by simp; omega
        obtain ⟨x0, hx0, hx16, hf0⟩ := HXq.out.cnt k hkn
        obtain ⟨x1, hx1⟩ : ∃ x1, x1 = x0 + 1 := ⟨_, rfl⟩
        obtain ⟨y, hy⟩ : ∃ y, y = 97 + K := ⟨_, rfl⟩
        obtain ⟨z, hz⟩ : ∃ z, z = 10 + K := ⟨_, rfl⟩
        obtain ⟨W6, W7, HW6, d6, HW7, d7, HCV, W8, HW8, d8, a', c', W9, HAP, d9, HXN⟩ := HXq.out.step hk16 k hkn ho x0 hx0 x1 hx1 y z hy hz
        have hw1 : IntKind.u64.wrap ((x0 : Int) + 1) = (x1 : Int) := by rw [IntKind.wrap_u64]; omega
        have hw2 : IntKind.u8.wrap (K : Int) = (K : Int) := by rw [IntKind.wrap_u8]; omega
        have hw3 : IntKind.u8.wrap (97 + (K : Int)) = (y : Int) := by rw [IntKind.wrap_u8]; omega
        have hw4 : IntKind.i64.wrap (10 + (K : Int)) = (z : Int) := by rw [IntKind.wrap_i64]; omega
        have hw5 : IntKind.u64.wrap (z : Int) = (z : Int) := by rw [IntKind.wrap_u64]; omega
        have zk : (0 : Int) ≤ (k : Int) := by omega
        have zn : (k : Int) < (n : Int) := by omega
        have HZK : Hid (k < n) := hkn
        clear hkn ho hx16 hy hz hx1 HXq hlt hj hK16
        go_upto_region 11 with fail
        rw [HW6.out]
        clear hx0 hf0 HW6
        refine wp_region_held_drew (S := fun W => W.cell? ⟨nb, k, none⟩ = some (.int .u64 (x1 : Nat))) (by kernel_rfl) d6 fun HS => ?_
        refine wpAnyH_take (i := 0) (v := .slice a K qc) rfl (by kernel_rfl) (by kernel_rfl) (by kernel_rfl) (fun _ _ _ h => h) (.inl ⟨rfl, fun W hW => by kernel_rfl⟩) d6 ?_
        simp only [List.getElem_toArray, List.getElem_cons_zero, Act.put, List.setIfInBounds_toArray, List.set_cons_zero, List.set_cons_succ]
        refine wpAnyH_take (i := 1) (v := .int .i64 (k : Nat)) rfl (by kernel_rfl) (by kernel_rfl) (by kernel_rfl) (fun _ _ _ h => h) (.inl ⟨rfl, fun W hW => by kernel_rfl⟩) d6 ?_
        simp only [List.getElem_toArray, List.getElem_cons_zero, List.getElem_cons_succ, Act.put, List.setIfInBounds_toArray, List.set_cons_zero, List.set_cons_succ]
        refine wpAnyH_take (i := 2) (v := .slice (some ⟨nb, 0, none⟩) n n) rfl (by kernel_rfl) (by kernel_rfl) (by kernel_rfl) (fun _ _ _ h => h) (.inl ⟨rfl, fun W hW => by kernel_rfl⟩) d6 ?_
        simp only [List.getElem_toArray, List.getElem_cons_zero, List.getElem_cons_succ, Act.put, List.setIfInBounds_toArray, List.set_cons_zero, List.set_cons_succ]
        refine wpAnyH_take (i := 3) (v := .int .i64 (k : Nat)) rfl (by kernel_rfl) (by kernel_rfl) (by kernel_rfl) (fun _ _ _ h => h) (.inl ⟨rfl, fun W hW => by kernel_rfl⟩) d6 ?_
        simp only [List.getElem_toArray, List.getElem_cons_zero, List.getElem_cons_succ, Act.put, List.setIfInBounds_toArray, List.set_cons_zero, List.set_cons_succ]
        refine wpAnyH_take (i := 4) (v := .pointer (some ⟨nb, k, none⟩)) rfl (by kernel_rfl) (by kernel_rfl) (by kernel_rfl) (fun _ _ _ h => h) (.inl ⟨rfl, fun W hW => by go_simp⟩) d6 ?_
        simp only [List.getElem_toArray, List.getElem_cons_zero, List.getElem_cons_succ, Act.put, List.setIfInBounds_toArray, List.set_cons_zero, List.set_cons_succ]
        refine wpAnyH_take (i := 5) (v := .int .u64 (x1 : Nat)) rfl (by kernel_rfl) (by kernel_rfl) (by kernel_rfl) (fun _ _ _ h => h) (.inl ⟨rfl, fun W hW => by go_simp⟩) d6 ?_
        simp only [List.getElem_toArray, List.getElem_cons_zero, List.getElem_cons_succ, Act.put, List.setIfInBounds_toArray, List.set_cons_zero, List.set_cons_succ]
        refine wpAnyH_take (i := 6) (v := .slice a K qc) rfl (by kernel_rfl) (by kernel_rfl) (by kernel_rfl) (fun _ _ _ h => h) (.inl ⟨rfl, fun W hW => by kernel_rfl⟩) d6 ?_
        simp only [List.getElem_toArray, List.getElem_cons_zero, List.getElem_cons_succ, Act.put, List.setIfInBounds_toArray, List.set_cons_zero, List.set_cons_succ]
        refine wpAnyH_take (i := 7) (v := .int .i64 (K : Nat)) rfl (by kernel_rfl) (by kernel_rfl) (by kernel_rfl) (fun _ _ _ h => h) (.inl ⟨rfl, fun W hW => by first | kernel_rfl | go_simp⟩) d6 ?_
        simp only [List.getElem_toArray, List.getElem_cons_zero, List.getElem_cons_succ, Act.put, List.setIfInBounds_toArray, List.set_cons_zero, List.set_cons_succ]
        refine wpAnyH_take (i := 8) (v := .int .u8 (K : Nat)) rfl (by kernel_rfl) (by kernel_rfl) (by kernel_rfl) (fun _ _ _ h => h) (.inl ⟨rfl, fun W hW => by go_simp⟩) d6 ?_
        simp only [List.getElem_toArray, List.getElem_cons_zero, List.getElem_cons_succ, Act.put, List.setIfInBounds_toArray, List.set_cons_zero, List.set_cons_succ]
        refine wpAnyH_take (i := 9) (v := .int .u8 (y : Nat)) rfl (by kernel_rfl) (by kernel_rfl) (by kernel_rfl) (fun _ _ _ h => h) (.inl ⟨rfl, fun W hW => by go_simp⟩) d6 ?_
        simp only [List.getElem_toArray, List.getElem_cons_zero, List.getElem_cons_succ, Act.put, List.setIfInBounds_toArray, List.set_cons_zero, List.set_cons_succ]
        refine wpAnyH_take (i := 12) (v := .slice a K qc) rfl (by kernel_rfl) (by kernel_rfl) (by kernel_rfl) (fun _ _ _ h => h) (.inl ⟨rfl, fun W hW => by kernel_rfl⟩) d6 ?_
        simp only [List.getElem_toArray, List.getElem_cons_zero, List.getElem_cons_succ, Act.put, List.setIfInBounds_toArray, List.set_cons_zero, List.set_cons_succ]
        refine wpAnyH_take (i := 13) (v := .int .i64 (K : Nat)) rfl (by kernel_rfl) (by kernel_rfl) (by kernel_rfl) (fun _ _ _ h => h) (.inl ⟨rfl, fun W hW => by first | kernel_rfl | go_simp⟩) d6 ?_
        simp only [List.getElem_toArray, List.getElem_cons_zero, List.getElem_cons_succ, Act.put, List.setIfInBounds_toArray, List.set_cons_zero, List.set_cons_succ]
        refine wpAnyH_take (i := 14) (v := .int .i64 (z : Nat)) rfl (by kernel_rfl) (by kernel_rfl) (by kernel_rfl) (fun _ _ _ h => h) (.inl ⟨rfl, fun W hW => by go_simp⟩) d6 ?_
        simp only [List.getElem_toArray, List.getElem_cons_zero, List.getElem_cons_succ, Act.put, List.setIfInBounds_toArray, List.set_cons_zero, List.set_cons_succ]
        refine wpAnyH_take (i := 15) (v := .int .u64 (z : Nat)) rfl (by kernel_rfl) (by kernel_rfl) (by kernel_rfl) (fun _ _ _ h => h) (.inl ⟨rfl, fun W hW => by go_simp⟩) d6 ?_
        simp only [List.getElem_toArray, List.getElem_cons_zero, List.getElem_cons_succ, Act.put, List.setIfInBounds_toArray, List.set_cons_zero, List.set_cons_succ]
        refine wpAnyH_ready (rs := [10]) (by kernel_rfl) (by simp) ?_
        refine AllReadyH.cons rfl (fun KC hKC => ?_) AllReadyH.nil
        refine step_storeM rfl (op_runW (w' := W7) (.slice (some ⟨W6.drew.heap.size, 0, none⟩) 1 1) ?_ ?_)
        · rw [← HW7.out]
          kernel_rfl
        refine hKC.out _ _ d7 fun _ => ?_
        clear hKC
        simp only [List.getElem_toArray, List.getElem_cons_zero, List.getElem_cons_succ, Act.put, List.setIfInBounds_toArray, List.set_cons_zero, List.set_cons_succ]
        refine wpAnyH_ready (rs := [11]) (by kernel_rfl) (by simp) ?_
        refine AllReadyH.cons rfl (fun KC hKC => ?_) AllReadyH.nil
        refine step_storeM rfl (op_runW (w' := W7) (.string (strL [y])) (by have r : (convert 48 9 (.slice (some ⟨W6.heap.size, 0, none⟩) 1 1)).run Try.prog W7 = .ok (.string (strL [y])) W7 := HCV.out; go_simp) ?_)
        refine hKC.out _ _ d7 fun _ => ?_
        clear hKC
        simp only [List.getElem_toArray, List.getElem_cons_zero, List.getElem_cons_succ, Act.put, List.setIfInBounds_toArray, List.set_cons_zero, List.set_cons_succ]
        refine wpAnyH_take (i := 16) (v := .agg #[.int .i64 (k : Nat), .int .u64 (x1 : Nat), .string (strL [y]), .int .u64 (z : Nat)]) rfl (by kernel_rfl) (by kernel_rfl) (by kernel_rfl) (fun _ _ _ h => h) (.inl ⟨rfl, fun W hW => by kernel_rfl⟩) d7 ?_
        simp only [List.getElem_toArray, List.getElem_cons_zero, List.getElem_cons_succ, Act.put, List.setIfInBounds_toArray, List.set_cons_zero, List.set_cons_succ]
        refine wpAnyH_ready (rs := [17]) (by kernel_rfl) (by simp) ?_
        refine AllReadyH.cons rfl (fun KC hKC => ?_) AllReadyH.nil
        refine step_storeM rfl (op_runW (w' := W8) (.slice (some ⟨W7.heap.size, 0, none⟩) 1 1) ?_ ?_)
        · rw [← HW8.out]
          kernel_rfl
        refine hKC.out _ _ d8 fun _ => ?_
        clear hKC
        simp only [List.getElem_toArray, List.getElem_cons_zero, List.getElem_cons_succ, Act.put, List.setIfInBounds_toArray, List.set_cons_zero, List.set_cons_succ]
        refine wpAnyH_ready (rs := [18]) (by kernel_rfl) (by simp) ?_
        refine AllReadyH.cons rfl (fun KC hKC => ?_) AllReadyH.nil
        refine step_apps2 rfl (.tmp 57) (.tmp 74) 28 rfl _ _ _ (by kernel_rfl) (by kernel_rfl) HAP.out ?_
        refine hKC.out _ _ d9 fun _ => ?_
        clear hKC
        simp only [List.getElem_toArray, List.getElem_cons_zero, List.getElem_cons_succ, Act.put, List.setIfInBounds_toArray, List.set_cons_zero, List.set_cons_succ]
        refine wpAnyH_take (i := 19) (v := .slice a' (K + 1) c') rfl (by kernel_rfl) (by kernel_rfl) (by kernel_rfl) (fun _ _ _ h => h) (.inl ⟨rfl, fun W hW => by kernel_rfl⟩) d9 ?_
        simp only [List.getElem_toArray, List.getElem_cons_zero, List.getElem_cons_succ, Act.put, List.setIfInBounds_toArray, List.set_cons_zero, List.set_cons_succ]
        refine wpAnyH_done (by kernel_rfl) ?_ _
        go_wp2_with fail
        go_roundg (ML - (j + 1))
        case measure => go_light; exact hme
        case rel => go_light; exact ⟨j + 1, K + 1, a', c', HJ.out, rfl, rfl, by simp, HXN.out⟩
    · obtain ⟨WF, HWF, HFF, HK⟩ : ∃ WF, Hid (wr.setCells rb 0 CF.toList = WF) ∧ Hid (WF.heap[rb]? = some (.cells CF 27 (0, 0))) ∧ Hid (∃ O l nx, K = l.length ∧ K ≤ 16 ∧ Qu O 1 WF (.slice a K qc) l ∧ LaidQ n own l nx ∧ (∀ k, k < w.heap.size → O k = 0) ∧ w.Since w.heap.size WF) := by
        obtain ⟨O, l, nx, hl, h16, hq, hr, hO, hs, hlq⟩ := HX.out
        have hrr := HZ.out.2.2.2.1
        have hrb : rb < W4.heap.size := hrr.lt
        have hrr2 := hrr.of_block (hs.block rb hrb)
        have hws := HZ.out.2.2.2.2.1
        have z := hws.size
        refine ⟨_, rfl, ?_, O, l, nx, hl, h16, hq.keep (x := 0) (Ch.sets (hO rb hrb) _ _ _) (by decide), hlq, fun k hk => hO k (by omega), ?_⟩
        · rw [← HC.out]
          exact row_heap (cfg_row hrr2 nodes n c m)
        · refine since_setCells ?_ _ _ _ (hws.trans (since_mono hs hws.size))
          rw [← HRB.out]
          exact HS00.out.size
      have HT2 : Hid (wr.there rb 0 CF.size) := by
        rw [← HC.out]
        exact row_there ((HZ.out.2.2.2.1).of_block (hsi.block rb (HZ.out.2.2.2.1).lt))
      have HRG : Hid (wr.rangeAt vb 0 CF.toList) := fun i v hv => by
        rw [World.cell?_of_block (a := ⟨vb, 0 + i, none⟩) (hsi.block vb HZ.out.2.2.1)]
        exact HZ.out.2.1 i v hv
      have HIL : Hid ((Try.prog.info? 27).map (·.size) = some CF.toList.length) := HI
      have HALL : Hid (CF.all (·.oneCell') = true) := by rw [← HC.out]; show _ = _; kernel_rfl
      clear HX hsi
      by_cases hj2 : j < ML
      · have hK2 : ¬ K < 16 := fun h => hlt ⟨hj2, h⟩
        have z1 : (j : Int) < (ML : Int) := by omega
        have z2 : ¬ (K : Int) < 16 := by omega
        clear hlt hj2 hK2 hK16 hj
        go_wp2_with (first
          | (refine wpList_load_mid rfl 27 _ rfl vb 0 rfl CF.toList _ HRG.out Try.underlying27 rfl HIL.out ?_)
          | (refine wpList_store_mid rfl 27 _ _ rfl rb 0 CF rfl rfl HT2.out HI.out HALL.out ?_; rw [HWF.out]))
        refine bodyPost_ret_by (results_cell_row_tmp2 rfl _ _ rb 27 _ (0, 0) _ rfl HFF.out Try.underlying27 rfl HI.out _ _ rfl rfl) rfl ?_
        rw [← HC.out]
        exact ⟨nodes, n, c, m, own, a, qc, K, rfl, HG.out.1, HG.out.2, HOW.out, HK.out⟩
      · have z1 : ¬ (j : Int) < (ML : Int) := by omega
        clear hlt hj2 hK16 hj
        go_wp2_with (first
          | (refine wpList_load_mid rfl 27 _ rfl vb 0 rfl CF.toList _ HRG.out Try.underlying27 rfl HIL.out ?_)
          | (refine wpList_store_mid rfl 27 _ _ rfl rb 0 CF rfl rfl HT2.out HI.out HALL.out ?_; rw [HWF.out]))
        refine bodyPost_ret_by (results_cell_row_tmp2 rfl _ _ rb 27 _ (0, 0) _ rfl HFF.out Try.underlying27 rfl HI.out _ _ rfl rfl) rfl ?_
        rw [← HC.out]
        exact ⟨nodes, n, c, m, own, a, qc, K, rfl, HG.out.1, HG.out.2, HOW.out, HK.out⟩
end Go.Proofs.Ytflppkmicgglfaa

/- Package settle: what the law of what is sent keeps in memory. -/
namespace Go.Proofs.Ytflppkmicgglfaa
open Go.RowKit
set_option maxRecDepth 100000
set_option maxRecDepth 100000
theorem Li.paint {O O' : Nat → Nat} {c c' : Nat} {w : World} {t sz n : Nat} {v : Value} {f : Nat → Value} (h : Li O c w t sz v n f) (hc : ∀ k, v.ownBlock = some k → O' k = c') : Li O' c' w t sz v n f := ⟨h.1, hc⟩
/-- What of a Settle no step of the laws turns. -/
structure Fx (nodes n own m c : Nat) (d : Sd) : Prop where
  node : d.node = 0
  shard : d.shard = (own : Nat)
  hn : d.n = n
  hown : d.own = own
  hm : d.m = m
  hc : d.c = c
  hcp : d.cp = fun i j => ((copN i nodes j : Nat) : Int)
theorem Fx.new (nodes n own m c : Nat) : Fx nodes n own m c (newS 0 own nodes n c m) := ⟨rfl, rfl, rfl, rfl, rfl, rfl, rfl⟩
theorem Fx.look {nodes n own m c : Nat} {d : Sd} (h : Fx nodes n own m c d) (l : List Ent) : Fx nodes n own m c (lookM d l) ∧ (lookM d l).du = some (shF (lookM d l) l) := by
  obtain ⟨k, k2⟩ := lkN_like d l d.n
  refine ⟨⟨k.node.trans h.node, k.shard.trans h.shard, k.n.trans h.hn, k.own.trans h.hown, k.m.trans h.hm, k.c.trans h.hc, k.cp.trans h.hcp⟩, ?_⟩
  rw [show (lookM d l).du = some (shF d l) from k2]
  congr 1
  funext i
  unfold shF
  rw [show (lookM d l).own = d.own from k.own]
theorem Fx.tick {nodes n own m c : Nat} {d : Sd} (h : Fx nodes n own m c d) (f : Nat → Option Du) (k : Nat) : Fx nodes n own m c (tkD d f k) := ⟨h.node, h.shard, h.hn, h.hown, h.hm, h.hc, h.hcp⟩
theorem msF_range {ms : List Mg} {O : Nat → Nat} {c cc K : Nat} {w : World} {a : Option Addr} (h : Li O c w 53 22 (.slice a K cc) K (msF ms)) (hK : ms.length = K) (j : Nat) (hj : j < K) : ∃ b, a = some ⟨b, 0, none⟩ ∧ w.rangeAt b (j * 22) (mgL (ms.getD j mg0) none 0) := by
  obtain ⟨b, rfl, hc⟩ := li_cell h (by omega)
  refine ⟨b, rfl, fun i v hv => ?_⟩
  have hi : i < 22 := by have := (List.getElem?_eq_some_iff.1 hv).1; rw [mgL_len] at this; exact this
  rw [hc _ (by omega), ← hv]
  unfold msF
  have e1 : (j * 22 + i) / 22 = j := by omega
  have e2 : (j * 22 + i) % 22 = i := by omega
  rw [e1, e2]
  have hi2 : i < 22 := hi
  unfold mgL
  match i, hi2 with
  | 0, _ => rfl
  | 1, _ => rfl
  | 2, _ => rfl
  | 3, _ => rfl
  | 4, _ => rfl
  | 5, _ => rfl
  | 6, _ => rfl
  | 7, _ => rfl
  | 8, _ => rfl
  | 9, _ => rfl
  | 10, _ => rfl
  | 11, _ => rfl
  | 12, _ => rfl
  | 13, _ => rfl
  | 14, _ => rfl
  | 15, _ => rfl
  | 16, _ => rfl
  | 17, _ => rfl
  | 18, _ => rfl
  | 19, _ => rfl
  | 20, _ => rfl
  | 21, _ => rfl
/-- Where all lies that a law of settle keeps: the configuration, the queue, the Settle. -/
structure SB (w0 : World) (nodes n own m c : Nat) (CF : Array Value) (vb sb : Nat) (O : Nat → Nat) (w : World) (p : Sp) (d : Sd) (qv : Value) (l : List Ent) : Prop where
  s : SIs O 0 w p d
  psb : p.sb = sb
  fx : Fx nodes n own m c d
  cf : w.rangeAt vb 0 CF.toList ∧ O vb = 41 ∧ vb < w.heap.size
  qu : Qu O 42 w qv l
  base : ∀ k, k < w0.heap.size → O k = 1000
  since : w0.Since w0.heap.size w
section
variable {w0 : World} {nodes n own m c : Nat} {CF : Array Value} {vb sb : Nat} {O O' : Nat → Nat} {w w' : World} {p : Sp} {d : Sd} {qv : Value} {l : List Ent} {x : Nat}
theorem rangeAt_on {w w' : World} {b o : Nat} {vs : List Value} (h : w.rangeAt b o vs) (e : w'.heap[b]? = w.heap[b]?) : w'.rangeAt b o vs := fun i v hv => by
  rw [World.cell?_of_block (a := ⟨b, o + i, none⟩) e]; exact h i v hv
theorem SB.keep (h : SB w0 nodes n own m c CF vb sb O w p d qv l) (k : Ch x O O' w w') (h1 : 43 ≤ x) (h2 : x < 1000) : SB w0 nodes n own m c CF vb sb O' w' p d qv l :=
  ⟨h.s.keepR (ChR.of k (Nat.le_refl x) (Nat.lt_succ_self x)) (.inl (by omega)), h.psb, h.fx, ⟨rangeAt_on h.cf.1 (k.block _ h.cf.2.2 (by rw [h.cf.2.1]; omega)), (k.col _ h.cf.2.2).trans h.cf.2.1, Nat.lt_of_lt_of_le h.cf.2.2 k.size⟩, h.qu.keep k (by omega), fun j hj => (k.col j (Nat.lt_of_lt_of_le hj h.since.size)).trans (h.base j hj), ⟨k.os.trans h.since.os, k.tape.trans h.since.tape, k.output.trans h.since.output, Nat.le_trans h.since.size k.size, fun j hj => (k.block j (Nat.lt_of_lt_of_le hj h.since.size) (by rw [h.base j hj]; omega)).trans (h.since.block j hj)⟩⟩
theorem SB.later (h : SB w0 nodes n own m c CF vb sb O w p d qv l) (k : w.Since w.heap.size w') : SB w0 nodes n own m c CF vb sb O w' p d qv l := h.keep (x := 60) (Ch.since k) (by decide) (by decide)
/-- A step of the Settle's own. -/
theorem SB.turn {p' : Sp} {d' : Sd} (h : SB w0 nodes n own m c CF vb sb O w p d qv l) (k : ChR 0 41 O O' w w') (hs : SIs O' 0 w' p' d') (hp : p'.sb = p.sb) (hf : Fx nodes n own m c d') : SB w0 nodes n own m c CF vb sb O' w' p' d' qv l :=
  ⟨hs, hp.trans h.psb, hf, ⟨rangeAt_on h.cf.1 (k.block _ h.cf.2.2 (by rw [h.cf.2.1]; omega)), (k.col _ h.cf.2.2).trans h.cf.2.1, Nat.lt_of_lt_of_le h.cf.2.2 k.size⟩, h.qu.keepR k (by omega), (ChR.base h.since h.base (by omega) k).2, (ChR.base h.since h.base (by omega) k).1⟩
theorem SB.tick {f : Nat → Option Du} (h : SB w0 nodes n own m c CF vb sb O w p d qv l) (hf : d.du = some f) :
    Calls Try.prog 8 #[.pointer (some ⟨sb, 0, none⟩)] w fun e w' => ∃ a cc K, e = .returned (.slice a K cc) ∧ Hid (∃ O', K = (peersM d f n).length ∧ SB w0 nodes n own m c CF vb sb O' w' p (tkD d f n) qv l ∧ Li O' 40 w' 53 22 (.slice a K cc) K (msF ((peersM d f n).map (sendM d f))) ∧ ChR 0 41 O O' w w') := by
  obtain rfl := h.psb
  refine (tick_due h.s hf).mono fun e w' ⟨a, cc, he, O', h1, h2, h3, h4⟩ => ?_
  rw [tkN_all, h.fx.hn] at h1 h2 h3 he
  refine ⟨a, cc, _, he, O', List.length_map .., h.turn h4 h1 rfl (h.fx.tick f n), h3, h4⟩
theorem SB.look (h : SB w0 nodes n own m c CF vb sb O w p d qv l) {l' : List Ent} {qa : Option Addr} {qc : Nat} (hq : QIn w qa l') (hl : l'.length ≤ 1000000000000) (x0 x1 x3 x4 x5 : Value) :
    Calls Try.prog 9 #[.pointer (some ⟨sb, 0, none⟩), .agg #[x0, x1, .slice qa l'.length qc, x3, x4, x5]] w fun e w' => e = .returned (.tuple #[]) ∧ Hid (∃ O' p', SB w0 nodes n own m c CF vb sb O' w' p' (lookM d l') qv l ∧ ChR 0 40 O O' w w') := by
  obtain rfl := h.psb
  refine (look_any h.s (h.fx.shard.trans (by rw [h.fx.hown])) hq hl x0 x1 x3 x4 x5).mono fun e w' ⟨he, O', ⟨b, V, h1⟩, h2⟩ => ⟨he, ?_⟩
  exact ⟨O', _, h.turn (h2.wide (lo' := 0) (hi' := 41) (Nat.le_refl _) (by omega)) h1 rfl (h.fx.look l').1, h2⟩
end
end Go.Proofs.Ytflppkmicgglfaa

/- Package settle: how the laws of settle begin. -/
namespace Go.Proofs.Ytflppkmicgglfaa
open Go.RowKit
set_option maxRecDepth 100000
set_option maxRecDepth 100000
/-- What a law of settle begins with. -/
def StE (w w6 : World) (nodes n own m c : Nat) (CF : Array Value) (vb sb : Nat) (qa : Option Addr) (K qc : Nat) : Prop := cfgA nodes n c m = CF ∧ (1 ≤ nodes ∧ nodes ≤ 9 ∧ 1 ≤ n ∧ n ≤ 8 ∧ 1 ≤ c ∧ c ≤ 7 ∧ 1 ≤ m ∧ m ≤ 64) ∧ (∀ i : Nat, i < n → goodM i nodes c) ∧ own < n ∧ ∃ O p l nx, K = l.length ∧ K ≤ 16 ∧ SB w nodes n own m c CF vb sb O w6 p (newS 0 own nodes n c m) (.slice qa K qc) l ∧ LaidQ n own l nx
theorem start_any {w W0 : World} (s0 : w.Since w.heap.size W0) (a0 a1 a2 a3 a4 : Int) {ma : Option Addr} {mc : Nat} {ms : List Int} (hM : IL W0 ma ms) (hm : ms.length ≤ 20000000000000) (v6 v7 : Value) :
    Calls Try.prog 5 #[.agg #[.int .i64 a0, .int .i64 a1, .int .i64 a2, .int .i64 a3, .int .i64 a4, .slice ma ms.length mc, v6, v7]] W0 fun e w2 => ∃ nodes n c m own qa qc K CF, e = .returned (.tuple #[.agg CF, .int .i64 (own : Nat), .slice qa K qc]) ∧
      ∃ vb W3 W4, Hid (w2.heap.size = vb) ∧ Hid (w2.alloc (.cells #[.int .i64 0, .int .i64 0, .int .i64 0, .int .i64 0, .int .i64 0, .int .i64 0, .int .i64 0, .int .i64 0, .slice none 0 0] 27) = W3) ∧ Hid (W3.there vb 0 CF.size) ∧ Hid ((Try.prog.info? 27).map (·.size) = some CF.size) ∧ Hid (CF.all (·.oneCell') = true) ∧ Hid (W3.setCells vb 0 CF.toList = W4) ∧ Hid (W4.rangeAt vb 0 CF.toList) ∧ Hid ((Try.prog.info? 27).map (·.size) = some CF.toList.length) ∧
        Hid (Calls Try.prog 6 #[.agg CF, .int .i64 0, .int .i64 (own : Nat)] W4 fun e w5 => ∃ sb, e = .returned (.pointer (some ⟨sb, 0, none⟩)) ∧
          Hid (Calls Try.prog 7 #[] w5 fun e w6 => e = .returned (.bool true) ∧ Hid (StE w w6 nodes n own m c CF vb sb qa K qc))) := by
  refine (laid_any a0 a1 a2 a3 a4 hM hm v6 v7).mono fun e w2 ⟨nodes, n, c, m, own, qa, qc, K, he, hh⟩ => ?_
  obtain ⟨hb, hg, ho, O1, l, nx, hK, h16, hq, hlq, hO1, s2⟩ := hh.out
  obtain ⟨W3, HW3, s3, f3, r3⟩ := cfg_alloc w2
  have s3' : w2.Since w2.heap.size (W3.setCells w2.heap.size 0 (cfgA nodes n c m).toList) := since_setCells (Nat.le_refl _) _ _ _ s3
  have r4 := cfg_row r3 nodes n c m
  have t1 : W3.there w2.heap.size 0 (cfgA nodes n c m).size := row_there r3
  have t2 : (cfgA nodes n c m).all (·.oneCell') = true := by kernel_rfl
  have t3 : (Try.prog.info? 27).map (·.size) = some (cfgA nodes n c m).size := infoC9
  obtain ⟨W4, hW4⟩ : ∃ W, W3.setCells w2.heap.size 0 (cfgA nodes n c m).toList = W := ⟨_, rfl⟩
  rw [hW4] at s3' r4
  have t9 := cfg_range r4
  have hlt := r4.lt
  have z1 := s0.size
  have z2 := s2.size
  have z3 := s3'.size
  have hqb : ∀ k, (Value.slice qa K qc).ownBlock = some k → W0.heap.size ≤ k ∧ k < w2.heap.size := fun k hk => by
    have h1 := hq.1.2 k hk
    obtain ⟨h2, h3⟩ := hq.1
    refine ⟨Nat.le_of_not_lt fun h => by have := hO1 k h; omega, ?_⟩
    rcases h2.2 with ⟨hv, _⟩ | ⟨b, cap, cur, hv, _, h5, _⟩
    · rw [hv] at hk; cases hk
    · rw [hv] at hk
      obtain rfl : b = k := Option.some.inj hk
      exact (Array.getElem?_eq_some_iff.1 h5).1
  refine ⟨nodes, n, c, m, own, qa, qc, K, _, he, _, W3, W4, rfl, HW3, t1, t3, t2, hW4, t9, t3, ?_⟩
  refine (newS_any (q := 0) (own := own) hg hb.2.2.2.2.2.2.1 hb.2.2.2.2.2.2.2 hb.2.2.1 hb.2.2.2.1 ho 0 (fun k => if k = w2.heap.size then 41 else if (Value.slice qa K qc).ownBlock = some k then 42 else 1000) _ _ _ _ _).mono fun e w5 ⟨sb, he5, ⟨O, p, h5, hp, hO⟩, s5⟩ => ⟨sb, he5, ?_⟩
  refine (wakesS_any w5).mono fun e w6 ⟨he6, s6⟩ => ⟨he6, rfl, hb, hg, ho, O, p, l, nx, hK, h16, ?_, hlq⟩
  have z5 := s5.size
  have hvb : O w2.heap.size = 41 := by rw [hO _ hlt]; exact if_pos rfl
  have hq4 : Qu O1 1 W4 (.slice qa K qc) l := hq.keep (x := 7) (Ch.since s3') (by decide)
  have hq5 : Qu O1 1 w5 (.slice qa K qc) l := hq4.keep (x := 7) (Ch.since s5) (by decide)
  have sw5 : w.Since w.heap.size w5 := (s0.trans (since_mono s2 s0.size)).trans (since_mono (s3'.trans (since_mono s5 s3'.size)) (by omega))
  have hSB5 : SB w nodes n own m c (cfgA nodes n c m) w2.heap.size sb O w5 p (newS 0 own nodes n c m) (.slice qa K qc) l := by
    refine ⟨h5, hp, Fx.new nodes n own m c, ⟨rangeAt_on t9 (s5.block _ hlt), hvb, by omega⟩, ⟨hq5.1.paint fun k hk => ?_, hq5.2⟩, fun k hk => ?_, sw5⟩
    · obtain ⟨q1, q2⟩ := hqb k hk
      rw [hO k (by omega)]
      show (if k = w2.heap.size then 41 else if (Value.slice qa K qc).ownBlock = some k then 42 else 1000) = 42
      rw [if_neg (by omega), if_pos hk]
    · rw [hO k (by omega)]
      show (if k = w2.heap.size then 41 else if (Value.slice qa K qc).ownBlock = some k then 42 else 1000) = 1000
      rw [if_neg (by omega), if_neg (fun h => by have := (hqb k h).1; omega)]
  exact hSB5.later s6
end Go.Proofs.Ytflppkmicgglfaa

/- Package settle: what the law of what is sent keeps in memory, step by step. -/
namespace Go.Proofs.Ytflppkmicgglfaa
open Go.RowKit
set_option maxRecDepth 100000
set_option maxRecDepth 100000
/-- .. with when each peer was sent something, and which of its copies. -/
structure SX (w0 : World) (nodes n own m c : Nat) (CF : Array Value) (vb sb lb tb : Nat) (sr : Nat → Nat) (O : Nat → Nat) (w : World) (p : Sp) (d : Sd) (qv : Value) (l : List Ent) (la : Nat → Nat) (se : Nat → Nat → Bool) : Prop where
  b : SB w0 nodes n own m c CF vb sb O w p d qv l
  lar : RowC O 43 w lb 3 n (fun i => .int .i64 (la i : Nat))
  ser : RowC O 44 w tb 42 n (fun i => .slice (some ⟨sr i, 0, none⟩) c c)
  ses : ∀ i, i < n → RowC O (45 + i) w (sr i) 4 c (fun k => .bool (se i k))
/-- While the rows are made. -/
structure SY (w0 : World) (nodes n own m c : Nat) (CF : Array Value) (vb sb lb tb : Nat) (sr : Nat → Nat) (i : Nat) (O : Nat → Nat) (w : World) (p : Sp) (d : Sd) (qv : Value) (l : List Ent) : Prop where
  b : SB w0 nodes n own m c CF vb sb O w p d qv l
  lar : RowC O 43 w lb 3 n (fun _ => .int .i64 0)
  ser : RowC O 44 w tb 42 n (fun j => if j < i then .slice (some ⟨sr j, 0, none⟩) c c else .slice none 0 0)
  ses : ∀ j, j < i → RowC O (45 + j) w (sr j) 4 c (fun _ => .bool false)
theorem infoI1 : (Try.prog.info? 3).map (fun i => (i.zero, i.size, i.bytes)) = some (some (.int .i64 0), 1, 8) := by kernel_rfl
theorem infoB1 : (Try.prog.info? 4).map (fun i => (i.zero, i.size, i.bytes)) = some (some (.bool false), 1, 1) := by kernel_rfl
theorem infoBS : (Try.prog.info? 42).map (fun i => (i.zero, i.size, i.bytes)) = some (some (.slice none 0 0), 1, 24) := by kernel_rfl
section
variable {w0 : World} {nodes n own m c : Nat} {CF : Array Value} {vb sb lb tb : Nat} {sr : Nat → Nat} {O O' : Nat → Nat} {w w' : World} {p : Sp} {d : Sd} {qv : Value} {l : List Ent} {la : Nat → Nat} {se : Nat → Nat → Bool}
/-- A new row. -/
theorem new_row (O : Nat → Nat) (x : Nat) (w : World) (z : Value) (k t : Nat) : Ch x O (fun b => if b < w.heap.size then O b else x) w (w.alloc (.cells (madeCells #[z] k) t)) ∧ RowC (fun b => if b < w.heap.size then O b else x) x (w.alloc (.cells (madeCells #[z] k) t)) w.heap.size t k (fun _ => z) := by
  have s : w.Since w.heap.size (w.alloc (.cells (madeCells #[z] k) t)) := (World.Since.refl _ _).alloc (Nat.le_refl _) _
  exact ⟨⟨s.os, s.tape, s.output, s.size, fun b hb => if_pos hb, fun b hb _ => s.block b hb⟩, World.rowIs_made w _ k _, if_neg (Nat.lt_irrefl _)⟩
theorem SY.start {W5 W6 : World} {lb tb : Nat} (h : SB w0 nodes n own m c CF vb sb O w p d qv l) (h5 : w.alloc (.cells (madeCells #[.int .i64 0] n) 3) = W5) (hl : w.heap.size = lb) (h6 : W5.alloc (.cells (madeCells #[.slice none 0 0] n) 42) = W6) (ht : W5.heap.size = tb) : ∃ O, SY w0 nodes n own m c CF vb sb lb tb (fun _ => 0) 0 O W6 p d qv l := by
  obtain ⟨k1, r1⟩ := new_row O 43 w (.int .i64 0) n 3
  rw [h5, hl] at r1
  rw [h5] at k1
  obtain ⟨k2, r2⟩ := new_row (fun b => if b < w.heap.size then O b else 43) 44 W5 (.slice none 0 0) n 42
  rw [h6, ht] at r2
  rw [h6, ht] at k2
  rw [hl] at k1 k2 r2
  exact ⟨_, (h.keep k1 (by decide) (by decide)).keep k2 (by decide) (by decide), r1.keep k2 (by decide), ⟨r2.1.congr fun j hj => (if_neg (Nat.not_lt_zero _)).symm, r2.2⟩, fun j hj => absurd hj (Nat.not_lt_zero _)⟩
theorem SY.step {i : Nat} {W7 : World} {rb : Nat} (h : SY w0 nodes n own m c CF vb sb lb tb sr i O w p d qv l) (hi : i < n) (hn : n ≤ 8) (h7 : w.alloc (.cells (madeCells #[.bool false] c) 4) = W7) (hr : w.heap.size = rb) : (W7.cell? ⟨tb, i, none⟩ = some (.slice none 0 0) ∧ W7.frozen? ⟨tb, i, none⟩ = false) ∧ ∃ O, SY w0 nodes n own m c CF vb sb lb tb (up sr i rb) (i + 1) O (W7.setCell ⟨tb, i, none⟩ (.slice (some ⟨rb, 0, none⟩) c c)) p d qv l := by
  obtain ⟨k1, r1⟩ := new_row O (45 + i) w (.bool false) c 4
  rw [h7, hr] at r1
  rw [h7, hr] at k1
  generalize (fun b => if b < rb then O b else 45 + i) = O2 at k1 r1
  have t1 := h.ser.keep k1 (by omega)
  have k2 : Ch 44 O2 O2 W7 (W7.setCell ⟨tb, i, none⟩ (.slice (some ⟨rb, 0, none⟩) c c)) := Ch.set t1.2 _ _
  refine ⟨⟨by rw [t1.1.cell hi, if_neg (Nat.lt_irrefl _)], t1.1.frozen i⟩, _, (h.b.keep k1 (by omega) (by omega)).keep k2 (by decide) (by decide), (h.lar.keep k1 (by omega)).keep k2 (by decide), ?_, fun j hj => ?_⟩
  · have t2 := t1.set i (.slice (some ⟨rb, 0, none⟩) c c)
    refine ⟨t2.1.congr fun j hj => ?_, t2.2⟩
    show (if j = i then Value.slice (some ⟨rb, 0, none⟩) c c else if j < i then .slice (some ⟨sr j, 0, none⟩) c c else .slice none 0 0) = if j < i + 1 then .slice (some ⟨up sr i rb j, 0, none⟩) c c else .slice none 0 0
    by_cases e : j = i
    · subst e
      rw [if_pos rfl, if_pos (Nat.lt_succ_self _), up_same]
    · rw [if_neg e, up_ne _ _ _ e]
      by_cases e2 : j < i
      · rw [if_pos e2, if_pos (by omega)]
      · rw [if_neg e2, if_neg (by omega)]
  · by_cases e : j = i
    · subst e
      rw [up_same]
      exact r1.keep k2 (by omega)
    · rw [up_ne _ _ _ e]
      exact ((h.ses j (by omega)).keep k1 (by omega)).keep k2 (by omega)
theorem SY.done (h : SY w0 nodes n own m c CF vb sb lb tb sr n O w p d qv l) : SX w0 nodes n own m c CF vb sb lb tb sr O w p d qv l (fun _ => 0) (fun _ _ => false) :=
  ⟨h.b, h.lar, ⟨h.ser.1.congr fun _ hj => if_pos hj, h.ser.2⟩, h.ses⟩
theorem SX.keep {x : Nat} (h : SX w0 nodes n own m c CF vb sb lb tb sr O w p d qv l la se) (k : Ch x O O' w w') (h1 : 60 ≤ x) (h2 : x < 1000) (hn : n ≤ 8) : SX w0 nodes n own m c CF vb sb lb tb sr O' w' p d qv l la se :=
  ⟨h.b.keep k (by omega) h2, h.lar.keep k (by omega), h.ser.keep k (by omega), fun i hi => (h.ses i hi).keep k (by omega)⟩
theorem SX.later (h : SX w0 nodes n own m c CF vb sb lb tb sr O w p d qv l la se) (k : w.Since w.heap.size w') (hn : n ≤ 8) : SX w0 nodes n own m c CF vb sb lb tb sr O w' p d qv l la se := h.keep (x := 60) (Ch.since k) (by decide) (by decide) hn
theorem SX.turn {p' : Sp} {d' : Sd} (h : SX w0 nodes n own m c CF vb sb lb tb sr O w p d qv l la se) (k : ChR 0 41 O O' w w') (hb : SB w0 nodes n own m c CF vb sb O' w' p' d' qv l) : SX w0 nodes n own m c CF vb sb lb tb sr O' w' p' d' qv l la se :=
  ⟨hb, h.lar.keepR k (by omega), h.ser.keepR k (by omega), fun i hi => (h.ses i hi).keepR k (by omega)⟩
/-- A peer was sent something at a tick. -/
theorem SX.last (h : SX w0 nodes n own m c CF vb sb lb tb sr O w p d qv l la se) (i T : Nat) : SX w0 nodes n own m c CF vb sb lb tb sr O (w.setCell ⟨lb, i, none⟩ (.int .i64 (T : Nat))) p d qv l (up la i T) se ∧ Ch 43 O O w (w.setCell ⟨lb, i, none⟩ (.int .i64 (T : Nat))) := by
  have k : Ch 43 O O w (w.setCell ⟨lb, i, none⟩ (.int .i64 (T : Nat))) := Ch.set h.lar.2 _ _
  have r := h.lar.set i (.int .i64 (T : Nat))
  refine ⟨⟨h.b.keep k (by decide) (by decide), ⟨r.1.congr fun j hj => ?_, r.2⟩, h.ser.keep k (by decide), fun j hj => (h.ses j hj).keep k (by omega)⟩, k⟩
  show (if j = i then Value.int .i64 (T : Nat) else .int .i64 (la j : Nat)) = .int .i64 ((if j = i then T else la j : Nat) : Nat)
  split <;> rfl
/-- .. at one of its copies. -/
theorem SX.sent (h : SX w0 nodes n own m c CF vb sb lb tb sr O w p d qv l la se) (i k : Nat) (hi : i < n) (hn : n ≤ 8) : SX w0 nodes n own m c CF vb sb lb tb sr O (w.setCell ⟨sr i, k, none⟩ (.bool true)) p d qv l la (up se i (up (se i) k true)) ∧ Ch (45 + i) O O w (w.setCell ⟨sr i, k, none⟩ (.bool true)) := by
  have q : Ch (45 + i) O O w (w.setCell ⟨sr i, k, none⟩ (.bool true)) := Ch.set (h.ses i hi).2 _ _
  refine ⟨⟨h.b.keep q (by omega) (by omega), h.lar.keep q (by omega), h.ser.keep q (by omega), fun j hj => ?_⟩, q⟩
  by_cases e : j = i
  · subst e
    have r := (h.ses j hj).set k (.bool true)
    refine ⟨r.1.congr fun x hx => ?_, r.2⟩
    rw [up_same]
    show (if x = k then Value.bool true else .bool (se j x)) = .bool (if x = k then true else se j x)
    split <;> rfl
  · rw [up_ne _ _ _ e]
    exact (h.ses j hj).keep q (by omega)
end
end Go.Proofs.Ytflppkmicgglfaa

/- Package settle: the law of what is sent: one message. -/
namespace Go.Proofs.Ytflppkmicgglfaa
open Go.RowKit
set_option maxRecDepth 100000
set_option maxRecDepth 100000
theorem place_turn {i nodes c t : Nat} (hg : goodM i nodes c) (ht : t < c) : placeM (cT i nodes) c ((copN i nodes t : Nat) : Int) = some t := by
  obtain ⟨g1, g2, g3, g4, g5, g6, g7, g8⟩ := hg
  rw [cop_tab (by omega) (by omega) (by omega) (by omega)]
  refine placeM_hit _ _ _ t ht ?_ rfl
  unfold placeM
  rw [List.find?_eq_none]
  intro j hj
  have hjt : j < t := by simpa using hj
  have := cop_ne i (by omega) nodes (by omega) t (by omega) j hjt
  simp; omega
/-- What is due, by the queue. -/
def fS (own : Nat) (l : List Ent) (i : Nat) : Option Du := if i = own then none else dueM l (i : Nat)
theorem fS_sh {d : Sd} {own : Nat} (h : d.own = own) (l : List Ent) : shF d l = fS own l := by funext i; unfold shF fS; rw [h]
theorem fS_first {own i : Nat} {l : List Ent} {u : Du} (h : fS own l i = some u) : i ≠ own ∧ firstM l (i : Nat) = some u.e ∧ u.e.p = (i : Nat) := by
  have ho : i ≠ own := fun e => by unfold fS at h; rw [if_pos e] at h; cases h
  have h1 : firstM l (i : Nat) = some u.e := by
    have := due_first l (i : Nat)
    unfold fS at h
    rw [if_neg ho] at h
    rw [h] at this
    exact this.symm
  refine ⟨ho, h1, ?_⟩
  have := List.find?_some h1
  simpa using this
theorem fS_none {own i : Nat} {l : List Ent} (ho : i ≠ own) (h : fS own l i = none) : firstM l (i : Nat) = none := by
  have := due_first l (i : Nat)
  unfold fS at h
  rw [if_neg ho] at h
  rw [h] at this
  exact this.symm
def wasP (pe : List Nat) (j : Nat) : Int := if j = 0 then -1 else ((pe.getD (j - 1) 0 : Nat) : Int)
theorem wasP_lt {pe : List Nat} (hp : pe.Pairwise (· < ·)) {j i : Nat} (h : pe[j]? = some i) : wasP pe j < (i : Int) := by
  unfold wasP
  by_cases h0 : j = 0
  · rw [if_pos h0]; omega
  · rw [if_neg h0]
    obtain ⟨hj, he⟩ := List.getElem?_eq_some_iff.1 h
    have := List.pairwise_iff_getElem.1 hp (j - 1) j (by omega) hj (by omega)
    rw [List.getD_eq_getElem?_getD, List.getElem?_eq_getElem (show j - 1 < pe.length by omega)]
    rw [he] at this
    show ((pe[j - 1] : Nat) : Int) < _
    omega
theorem wasP_succ {pe : List Nat} {j i : Nat} (h : pe[j]? = some i) : wasP pe (j + 1) = (i : Int) := by
  unfold wasP
  rw [if_neg (by omega), Nat.add_sub_cancel, List.getD_eq_getElem?_getD, h]
  rfl
/-- Where the loop over a tick's messages stands. -/
def MX (w0 : World) (nodes n own m c : Nat) (CF : Array Value) (vb sb lb tb : Nat) (sr : Nat → Nat) (qv : Value) (l : List Ent) (T j : Nat) (was : Int) (a : Option Addr) (cc K : Nat) (W : World) : Prop := ∃ O p d la se, K = (peersM d (fS own l) n).length ∧ was = wasP (peersM d (fS own l) n) j ∧ SX w0 nodes n own m c CF vb sb lb tb sr O W p (tkD d (fS own l) n) qv l (laJ (peersM d (fS own l) n) (T + 1) la j) (seJ (peersM d (fS own l) n) d.t se j) ∧ Li O 40 W 53 22 (.slice a K cc) K (msF ((peersM d (fS own l) n).map (sendM d (fS own l)))) ∧ SV n own m c (fS own l) d T la se ∧ Fx nodes n own m c d ∧ d.du = some (fS own l) ∧ (∀ i, i < n → d.t i < c)
/-- Where the loop over the ticks stands. -/
def TX (w0 : World) (nodes n own m c : Nat) (CF : Array Value) (vb sb lb tb : Nat) (sr : Nat → Nat) (qv : Value) (l : List Ent) (T : Nat) (W : World) : Prop := ∃ O p d la se, SX w0 nodes n own m c CF vb sb lb tb sr O W p d qv l la se ∧ SV n own m c (fS own l) d T la se ∧ d.du = some (fS own l) ∧ (∀ i, i < n → d.t i < c)
section
variable {w0 : World} {nodes n own m c : Nat} {CF : Array Value} {vb sb lb tb : Nat} {sr : Nat → Nat} {W : World} {qa a : Option Addr} {K qc cc : Nat} {l : List Ent} {T j M : Nat} {was : Int}
theorem TX.tick (h : TX w0 nodes n own m c CF vb sb lb tb sr (.slice qa K qc) l T W) :
    Calls Try.prog 8 #[.pointer (some ⟨sb, 0, none⟩)] W fun e w' => ∃ a cc M, e = .returned (.slice a M cc) ∧ Hid (MX w0 nodes n own m c CF vb sb lb tb sr (.slice qa K qc) l T 0 (-1) a cc M w') := by
  obtain ⟨O, p, d, la, se, h1, h2, h3, h4⟩ := h
  refine (h1.b.tick h3).mono fun e w' ⟨a, cc, M, he, hh⟩ => ⟨a, cc, M, he, ?_⟩
  obtain ⟨O', hK, h5, h6, h7⟩ := hh.out
  refine ⟨O', p, d, la, se, hK, rfl, ?_, h6, h2, h1.b.fx, h3, h4⟩
  rw [laJ_zero, seJ_zero]
  exact h1.turn h7 h5
/-- The same queue, shown again. -/
theorem MX.look (h : MX w0 nodes n own m c CF vb sb lb tb sr (.slice qa K qc) l T j was a cc M W) (hK : K = l.length) (h16 : K ≤ 16) (x0 x1 x3 x4 x5 : Value) :
    Calls Try.prog 9 #[.pointer (some ⟨sb, 0, none⟩), .agg #[x0, x1, .slice qa K qc, x3, x4, x5]] W fun e w' => e = .returned (.tuple #[]) ∧ Hid (MX w0 nodes n own m c CF vb sb lb tb sr (.slice qa K qc) l T j was a cc M w') := by
  subst hK
  obtain ⟨O, p, d, la, se, hK, hw, h1, h2, h3, h4, h5, h6⟩ := h
  refine (h1.b.look h1.b.qu.q (by omega) x0 x1 x3 x4 x5).mono fun e w' ⟨he, hh⟩ => ⟨he, ?_⟩
  obtain ⟨O', p', hb, hk⟩ := hh.out
  rw [look_same _ _ (show (tkD d (fS own l) n).du = some (shF (tkD d (fS own l) n) l) by rw [fS_sh (show (tkD d (fS own l) n).own = own from h4.hown)]; exact h5)] at hb
  exact ⟨O', p', d, la, se, hK, hw, h1.turn (hk.wide (Nat.le_refl _) (by omega)) hb, h2.keepR hk (by omega), h3, h4, h5, h6⟩
end
end Go.Proofs.Ytflppkmicgglfaa

/- Package settle: messages and entries kept in variables of the law's own. -/
namespace Go.Proofs.Ytflppkmicgglfaa
open Go.RowKit
set_option maxRecDepth 100000
set_option maxRecDepth 100000
theorem infoM22 : (Try.prog.info? 53).map (·.size) = some 22 := by kernel_rfl
/-- A message in a variable. -/
theorem msg_box (W : World) (MA : Array Value) (h22 : MA.size = 22) (h1 : MA.all (·.oneCell') = true) : ∃ W1 W2 gb, Hid (W.heap.size = gb) ∧ Hid (W.alloc (.cells #[.int .i64 0, .int .i64 0, .int .i64 0, .int .i64 0, .int .u64 0, .int .u64 0, .int .u64 0, .int .u64 0, .int .i64 0, .int .u64 0, .slice none 0 0, .int .i64 0, .int .u64 0, .string ⟨#[]⟩, .string ⟨#[]⟩, .int .u64 0, .int .u64 0, .int .u64 0, .int .i64 0, .int .i64 0, .int .i64 0, .int .i64 0] 53) = W1) ∧ Hid (W1.there gb 0 MA.size) ∧ Hid ((Try.prog.info? 53).map (·.size) = some MA.size) ∧ Hid (MA.all (·.oneCell') = true) ∧ Hid (W1.setCells gb 0 MA.toList = W2) ∧ Hid (W.Since W.heap.size W2) ∧ Hid (W2.rangeAt gb 0 MA.toList ∧ gb < W2.heap.size) := by
  have s1 : W.Since W.heap.size (W.alloc (.cells #[.int .i64 0, .int .i64 0, .int .i64 0, .int .i64 0, .int .u64 0, .int .u64 0, .int .u64 0, .int .u64 0, .int .i64 0, .int .u64 0, .slice none 0 0, .int .i64 0, .int .u64 0, .string ⟨#[]⟩, .string ⟨#[]⟩, .int .u64 0, .int .u64 0, .int .u64 0, .int .i64 0, .int .i64 0, .int .i64 0, .int .i64 0] 53)) := (World.Since.refl _ _).alloc (Nat.le_refl _) _
  have r : (W.alloc (.cells #[.int .i64 0, .int .i64 0, .int .i64 0, .int .i64 0, .int .u64 0, .int .u64 0, .int .u64 0, .int .u64 0, .int .i64 0, .int .u64 0, .slice none 0 0, .int .i64 0, .int .u64 0, .string ⟨#[]⟩, .string ⟨#[]⟩, .int .u64 0, .int .u64 0, .int .u64 0, .int .i64 0, .int .i64 0, .int .i64 0, .int .i64 0] 53)).rowIs W.heap.size 53 22 (fun i => (#[.int .i64 0, .int .i64 0, .int .i64 0, .int .i64 0, .int .u64 0, .int .u64 0, .int .u64 0, .int .u64 0, .int .i64 0, .int .u64 0, .slice none 0 0, .int .i64 0, .int .u64 0, .string ⟨#[]⟩, .string ⟨#[]⟩, .int .u64 0, .int .u64 0, .int .u64 0, .int .i64 0, .int .i64 0, .int .i64 0, .int .i64 0] : Array Value).toList.getD i undef) := World.rowIs_alloc W _ _ _ (fun i hi => by
    rw [List.getD_eq_getElem?_getD, Array.getElem?_toList, Array.getElem?_eq_getElem hi]
    rfl)
  refine ⟨_, _, _, rfl, rfl, by show World.there _ _ _ _; rw [h22]; exact row_there r, by show _ = _; rw [h22]; exact infoM22, h1, rfl, since_setCells (Nat.le_refl _) _ _ _ s1, ?_⟩
  have h7 := rowIs_setCells MA.toList 0 _ _ r
  refine ⟨fun j v hv => ?_, h7.lt⟩
  have hj : j < 22 := by have := (List.getElem?_eq_some_iff.1 hv).1; rw [Array.length_toList, h22] at this; exact this
  rw [Nat.zero_add, h7.cell hj, if_pos ⟨Nat.zero_le _, by rw [Array.length_toList, h22]; omega⟩, Nat.sub_zero, List.getD_eq_getElem?_getD, hv]
  rfl
/-- An entry in a variable. -/
theorem ent_box (W : World) (e : Ent) : ∃ W1 W2 eb, Hid (W.heap.size = eb) ∧ Hid (W.alloc (.cells #[.int .i64 0, .int .u64 0, .string ⟨#[]⟩, .int .u64 0] 55) = W1) ∧ Hid (W1.there eb 0 (entA e).size) ∧ Hid ((Try.prog.info? 55).map (·.size) = some (entA e).size) ∧ Hid ((entA e).all (·.oneCell') = true) ∧ Hid (W1.setCells eb 0 (entA e).toList = W2) ∧ Hid (W.Since W.heap.size W2) ∧ Hid (W2.rangeAt eb 0 (entA e).toList ∧ eb < W2.heap.size) := by
  obtain ⟨W1, HW1, s1, r1⟩ := ent0_alloc W
  have h := ent_row r1 e
  refine ⟨W1, _, _, rfl, HW1, row_there r1, infoE4, (by show _ = _; kernel_rfl), rfl, since_setCells (Nat.le_refl _) _ _ _ s1, fun j v hv => ?_, (Array.getElem?_eq_some_iff.1 h).1⟩
  rw [Nat.zero_add]
  unfold World.cell?
  rw [h]
  show (entA e)[j]? = some v
  rw [← Array.getElem?_toList]
  exact hv
end Go.Proofs.Ytflppkmicgglfaa
