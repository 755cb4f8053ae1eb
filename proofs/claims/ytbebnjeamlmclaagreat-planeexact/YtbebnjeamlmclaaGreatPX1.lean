/- The walk of PlaneAsk.holds. -/
import Derived.Test.YtbebnjeamlmclaaGreatIB7
import Derived.Test.YtbebnjeamlmclaaGreatPlaneRef3
namespace Go.Proofs.YtbebnjeamlmclaaGreat
open Go.RowKit Go.Shelf Go.Sort
set_option maxRecDepth 100000
set_option maxRecDepth 100000

theorem own_mono {w : World} {K K' : Nat} {e : TypeId} {v : Value} {n : Nat} {xs : List Value} (h : w.ownsRow K e 1 v n xs) (hk : K' ≤ K) : w.ownsRow K' e 1 v n xs := by
  refine ⟨h.1, ?_⟩
  rcases h.2 with h0 | ⟨g, cap, cur, e, hk', hr⟩
  · exact .inl h0
  · exact .inr ⟨g, cap, cur, e, Nat.le_trans hk hk', hr⟩

/-- Both Copies, at whatever numbers: as many, the same, the same error. -/
theorem copies_both (s n c : Int) : ∃ (k : Nat) (f : Nat → Int) (err : Int), k ≤ 9 ∧
    (∀ W, Calls Tryz.prog 4 #[.int .i64 s, .int .i64 n, .int .i64 c] W fun e w' => ∃ a cap, e = .returned (.tuple #[.slice a k cap, .int .i64 err]) ∧ w'.ownsRow W.heap.size 3 1 (.slice a k cap) k ((List.range k).map fun j => .int .i64 (f j)) ∧ RowKit.Below W.heap.size W w') ∧
    (∀ W, Calls Tryz.prog 28 #[.int .i64 s, .int .i64 n, .int .i64 c] W fun e w' => ∃ a cap, e = .returned (.tuple #[.slice a k cap, .int .i64 err]) ∧ w'.ownsRow W.heap.size 3 1 (.slice a k cap) k ((List.range k).map fun j => .int .i64 (f j)) ∧ RowKit.Below W.heap.size W w') := by
  by_cases hg : goodM s n c
  · obtain ⟨s, rfl⟩ : ∃ k : Nat, s = k := ⟨s.toNat, by have := hg.2.2.2.2.2.2.1; omega⟩
    obtain ⟨n, rfl⟩ : ∃ k : Nat, n = k := ⟨n.toNat, by have := hg.1; omega⟩
    obtain ⟨c, rfl⟩ : ∃ k : Nat, c = k := ⟨c.toNat, by have := hg.2.2.1; omega⟩
    have hs : s < 8 := by have := hg.2.2.2.2.2.2.2; omega
    have hn : n < 10 := by have := hg.2.1; omega
    have hn1 : 1 ≤ n := by have := hg.1; omega
    have hcn : c ≤ n := by have := hg.2.2.2.2.2.1; omega
    refine ⟨c, fun j => (cT s n j : Nat), 0, by omega, fun W => (copies_any s n c hg W).mono fun e w' ⟨v, B, he, hB, ho, _, hb⟩ => ?_, fun W => (refCopies_any s n c hg W).mono fun e w' ⟨v, he, ho, hb⟩ => ?_⟩
    · have e1 : ((List.range c).map fun j => Value.int .i64 (copN s n j : Nat)) = (List.range c).map fun j => Value.int .i64 (cT s n j : Nat) := by
        apply List.map_congr_left
        intro j hj
        have hj := List.mem_range.1 hj
        rw [copN_eq, cT_eq s hs n hn hn1 j (by omega)]
      rw [e1] at ho
      obtain ⟨a, cap, rfl, _, _⟩ := own_slice ho
      exact ⟨a, cap, he, own_mono ho hB, hb⟩
    · obtain ⟨a, cap, rfl, _, _⟩ := own_slice ho
      exact ⟨a, cap, he, ho, hb⟩
  · refine ⟨0, fun _ => 0, 30, by omega, fun W => (copies_bad s n c hg W).mono fun e w' ⟨he, hw⟩ => ?_, fun W => (refCopies_bad s n c hg W).mono fun e w' ⟨he, hw⟩ => ?_⟩
    · subst hw; exact ⟨none, 0, he, World.ownsRow_nil _ _ _ _, RowKit.Below.refl _ _⟩
    · subst hw; exact ⟨none, 0, he, World.ownsRow_nil _ _ _ _, RowKit.Below.refl _ _⟩

/-- The law's Book, of at most t turns. -/
def Bk (w : World) (bk t : Nat) (W : World) : Prop := ∃ n A ln C M bv ov at' turn done used, IBookOk W w.heap.size bk n A ln C M bv ov at' turn done used ∧ turn ≤ t ∧ RowKit.Below w.heap.size w W
theorem IBookOk.on {w w' : World} {B bk n : Nat} {A : Nat → Option Addr} {ln C M : Nat → Nat} {bv ov : Value} {at' turn done used : Nat} (h : IBookOk w B bk n A ln C M bv ov at' turn done used) (hb : RowKit.Below w.heap.size w w') : IBookOk w' B bk n A ln C M bv ov at' turn done used :=
  ⟨h.is.since (since_below hb), h.hat, h.hU, h.hu, h.hl, h.hl2⟩
theorem Bk.on {w W W' : World} {bk t : Nat} (h : Bk w bk t W) (hb : RowKit.Below W.heap.size W W') : Bk w bk t W' := by
  obtain ⟨n, A, ln, C, M, bv, ov, at', turn, done, used, hk, ht, h0⟩ := h
  exact ⟨n, A, ln, C, M, bv, ov, at', turn, done, used, hk.on hb, ht, h0.trans (hb.mono h0.size)⟩
theorem Bk.drew {w W : World} {bk t : Nat} (h : Bk w bk t W) : Bk w bk t W.drew := h.on ((RowKit.Below.refl _ _).drew)
theorem Bk.more {w W : World} {bk t t' : Nat} (h : Bk w bk t W) (ht' : t ≤ t') : Bk w bk t' W := by
  obtain ⟨n, A, ln, C, M, bv, ov, at', turn, done, used, hk, ht, h0⟩ := h
  exact ⟨n, A, ln, C, M, bv, ov, at', turn, done, used, hk, by omega, h0⟩
theorem bk_look {w W : World} {bk t : Nat} (h : Bk w bk t W) (ht : t ≤ 1000000) :
    Calls Tryz.prog 10 #[.pointer (some ⟨bk, 0, none⟩)] W fun e w' => e = .returned (.bool true) ∧ Bk w bk t w' := by
  obtain ⟨n, A, ln, C, M, bv, ov, at', turn, done, used, hk, ht', h0⟩ := h
  refine (book_look hk h0.size (by omega)).mono fun e w' ⟨he, n', A', ln', C', M', bv', ov', at2, done2, hk', mv⟩ => ⟨he, n', A', ln', C', M', bv', ov', at2, turn, done2, used, hk', ht', ?_⟩
  exact mv.below h0 h0.size (fun k hf => (hk.is.ge k hf).1)
theorem bk_ints {w W : World} {bk t : Nat} (ht : t ≤ 1000000) {K : Nat} {a : Option Addr} {len cap : Nat} {xs : List Value} (hl : W.ownsRow K 3 1 (.slice a len cap) len xs) (hlen : len ≤ 1048576) (hK : w.heap.size ≤ K) {W0 : World} (h0 : Bk w bk t W0) (hz : W0.heap.size ≤ K) (hbz : RowKit.Below W0.heap.size W0 W) :
    Calls Tryz.prog 31 #[.pointer (some ⟨bk, 0, none⟩), .slice a len cap] W fun e w' => e = .returned (.tuple #[]) ∧ Bk w bk (t + 1) w' := by
  obtain ⟨n, A, ln, C, M, bv, ov, at', turn, done, used, hk0, ht', hb0⟩ := h0
  have hk := hk0.on hbz
  have hbW := hb0.trans (hbz.mono hb0.size)
  have hfr : ∀ ad, a = some ad → ¬ BF bk n A bv ov ad.block := fun ad e hf => by
    have h1 := (hk0.is.ge _ hf).2
    have h2 := (hl.lt ad.block (by rw [e]; rfl)).1
    omega
  refine (bookInts hk.is hbW.size a len cap xs (own_mono hl hK) hfr hk.hat (by omega) hlen hk.hU hk.hu hk.hl hk.hl2).mono fun e w' ⟨he, n', A', ln', C', M', bv', ov', used', h1, h2, h3, h4, h5, h6, mv⟩ => ⟨he, n', A', ln', C', M', bv', ov', at', turn + 1, done, used', ⟨h1, h2, h3, h4, h5, h6⟩, by omega, ?_⟩
  exact mv.below hbW hbW.size (fun k hf => by
    rcases hf with hf | ⟨ad, e, hf⟩
    · exact (hk.is.ge k hf).1
    · have := (hl.lt ad.block (by rw [e]; rfl)).1
      omega)

/-- What holds keeps in memory. -/
structure Ask (w0 : World) (bk t ab pb qb : Nat) (D A B C px py qx qy : Int) (W : World) : Prop where
  k : Bk w0 bk t W
  d : W.cell? ⟨ab, 0, none⟩ = some (.int .i64 D)
  a : W.cell? ⟨ab, 1, none⟩ = some (.int .i64 A)
  b : W.cell? ⟨ab, 2, none⟩ = some (.int .i64 B)
  c : W.cell? ⟨ab, 3, none⟩ = some (.int .i64 C)
  p0 : W.cell? ⟨pb, 0, none⟩ = some (.int .i64 px)
  p1 : W.cell? ⟨pb, 1, none⟩ = some (.int .i64 py)
  q0 : W.cell? ⟨qb, 0, none⟩ = some (.int .i64 qx)
  q1 : W.cell? ⟨qb, 1, none⟩ = some (.int .i64 qy)
theorem Ask.on {w0 : World} {bk t ab pb qb : Nat} {D A B C px py qx qy : Int} {W W' : World} (h : Ask w0 bk t ab pb qb D A B C px py qx qy W) (hb : RowKit.Below W.heap.size W W') : Ask w0 bk t ab pb qb D A B C px py qx qy W' :=
  ⟨h.k.on hb, below_cell hb h.d, below_cell hb h.a, below_cell hb h.b, below_cell hb h.c, below_cell hb h.p0, below_cell hb h.p1, below_cell hb h.q0, below_cell hb h.q1⟩
theorem Ask.drew {w0 : World} {bk t ab pb qb : Nat} {D A B C px py qx qy : Int} {W : World} (h : Ask w0 bk t ab pb qb D A B C px py qx qy W) : Ask w0 bk t ab pb qb D A B C px py qx qy W.drew := h.on ((RowKit.Below.refl _ _).drew)
theorem grow_below (w : World) (os : Array Obj) : RowKit.Below w.heap.size w (grow w os) := below_grow w.heap.size w 0 os (Nat.le_refl _)

set_option maxHeartbeats 4000000 in
theorem holds1 (A B C PX PY QX QY : Int) {w0 w : World} {bk t : Nat} (hK : Bk w0 bk t w) :
    Calls Tryz.prog 8 #[.agg #[.int .i64 1, .int .i64 A, .int .i64 B, .int .i64 C, .int .i64 PX, .int .i64 PY, .int .i64 QX, .int .i64 QY], .pointer (some ⟨bk, 0, none⟩)] w fun e w' => e = .returned (.bool true) ∧ Bk w0 bk (t + 1) w' := by
  have hp := fun w => point_any PX PY w
  have hq := fun w => point_any QX QY w
  have bpx := nearZ_bound PX
  have bpy := nearZ_bound PY
  have bqx := nearZ_bound QX
  have bqy := nearZ_bound QY
  generalize nearZ PX = px at *
  generalize nearZ PY = py at *
  generalize nearZ QX = qx at *
  generalize nearZ QY = qy at *
  obtain ⟨W1, hW1⟩ : ∃ W1, w.alloc (.cells #[.int .i64 1, .int .i64 A, .int .i64 B, .int .i64 C, .int .i64 PX, .int .i64 PY, .int .i64 QX, .int .i64 QY] 38) = W1 := ⟨_, rfl⟩
  have k0 : W1.cell? ⟨w.heap.size, 0, none⟩ = some (.int .i64 1) := by rw [← hW1]; exact World.cell?_alloc_at (w := w) _ _ _ 0 rfl
  have k1 : W1.cell? ⟨w.heap.size, 1, none⟩ = some (.int .i64 A) := by rw [← hW1]; exact World.cell?_alloc_at (w := w) _ _ _ 1 rfl
  have k2 : W1.cell? ⟨w.heap.size, 2, none⟩ = some (.int .i64 B) := by rw [← hW1]; exact World.cell?_alloc_at (w := w) _ _ _ 2 rfl
  have k3 : W1.cell? ⟨w.heap.size, 3, none⟩ = some (.int .i64 C) := by rw [← hW1]; exact World.cell?_alloc_at (w := w) _ _ _ 3 rfl
  have k4 : W1.cell? ⟨w.heap.size, 4, none⟩ = some (.int .i64 PX) := by rw [← hW1]; exact World.cell?_alloc_at (w := w) _ _ _ 4 rfl
  have k5 : W1.cell? ⟨w.heap.size, 5, none⟩ = some (.int .i64 PY) := by rw [← hW1]; exact World.cell?_alloc_at (w := w) _ _ _ 5 rfl
  have k6 : W1.cell? ⟨w.heap.size, 6, none⟩ = some (.int .i64 QX) := by rw [← hW1]; exact World.cell?_alloc_at (w := w) _ _ _ 6 rfl
  have k7 : W1.cell? ⟨w.heap.size, 7, none⟩ = some (.int .i64 QY) := by rw [← hW1]; exact World.cell?_alloc_at (w := w) _ _ _ 7 rfl
  have b1 : RowKit.Below w.heap.size w W1 := by rw [← hW1]; exact (RowKit.Below.refl _ _).alloc (Nat.le_refl _) _
  have HB : Hid (Bk w0 bk t w) := hK
  clear hK
  go_enter Tryz.func8, Tryz.ntmps8
  go_wp2_with fail
  refine (hp _).mono ?_
  rintro e w1 ⟨za, zb, rfl, fza, fzb, c1⟩
  have b2 := b1.trans (c1.mono b1.size)
  have m0 := below_cell c1 k0
  have m1 := below_cell c1 k1
  have m2 := below_cell c1 k2
  have m3 := below_cell c1 k3
  have m6 := below_cell c1 k6
  have m7 := below_cell c1 k7
  clear k0 k1 k2 k3 k4 k5 k6 k7 hW1 c1
  obtain ⟨W2, hW2⟩ : ∃ W2, w1.alloc (.cells #[.int .i64 px, .int .i64 py] 80) = W2 := ⟨_, rfl⟩
  have al := fun b i v (h : w1.cell? ⟨b, i, none⟩ = some v) => (show W2.cell? ⟨b, i, none⟩ = some v by rw [← hW2, alloc_keeps _ _ _ _ (World.block_lt_of_cell? _ _ h)]; exact h)
  have n0 := al _ _ _ m0
  have n1 := al _ _ _ m1
  have n2 := al _ _ _ m2
  have n3 := al _ _ _ m3
  have n6 := al _ _ _ m6
  have n7 := al _ _ _ m7
  have p0 : W2.cell? ⟨w1.heap.size, 0, none⟩ = some (.int .i64 px) := by rw [← hW2]; exact World.cell?_alloc_at (w := w1) _ _ _ 0 rfl
  have p1 : W2.cell? ⟨w1.heap.size, 1, none⟩ = some (.int .i64 py) := by rw [← hW2]; exact World.cell?_alloc_at (w := w1) _ _ _ 1 rfl
  have b3 : RowKit.Below w.heap.size w W2 := by rw [← hW2]; exact b2.alloc b2.size _
  clear m0 m1 m2 m3 m6 m7 al b2
  go_wp2_with fail
  refine (hq _).mono ?_
  rintro e w2 ⟨ya, yb, rfl, fya, fyb, c2⟩
  have b4 := b3.trans (c2.mono b3.size)
  have r0 := below_cell c2 n0
  have r1 := below_cell c2 n1
  have r2 := below_cell c2 n2
  have r3 := below_cell c2 n3
  have s0 := below_cell c2 p0
  have s1 := below_cell c2 p1
  clear n0 n1 n2 n3 n6 n7 p0 p1 hW2 c2 b3
  obtain ⟨W3, hW3⟩ : ∃ W3, w2.alloc (.cells #[.int .i64 qx, .int .i64 qy] 80) = W3 := ⟨_, rfl⟩
  have al := fun b i v (h : w2.cell? ⟨b, i, none⟩ = some v) => (show W3.cell? ⟨b, i, none⟩ = some v by rw [← hW3, alloc_keeps _ _ _ _ (World.block_lt_of_cell? _ _ h)]; exact h)
  have hS : Ask w0 bk t w.heap.size w1.heap.size w2.heap.size 1 A B C px py qx qy W3 :=
    ⟨HB.out.on (by rw [← hW3]; exact b4.alloc b4.size _), al _ _ _ r0, al _ _ _ r1, al _ _ _ r2, al _ _ _ r3, al _ _ _ s0, al _ _ _ s1, by rw [← hW3]; exact World.cell?_alloc_at (w := w2) _ _ _ 0 rfl, by rw [← hW3]; exact World.cell?_alloc_at (w := w2) _ _ _ 1 rfl⟩
  clear r0 r1 r2 r3 s0 s1 al b4 b1 hp hq HB
  generalize w.heap.size = ab at *
  generalize w1.heap.size = pb at *
  have e0 := hS.d
  have e1 := hS.a
  have hsp : Hid (∀ W, Ask w0 bk t ab pb w2.heap.size 1 A B C px py qx qy W → Calls Tryz.prog 22 #[.int .i64 A] W fun e w' => ∃ a b, e = .returned (.complex .f64 a b) ∧ Fl a (spZ A).1 ∧ Fl b (spZ A).2 ∧ Ask w0 bk t ab pb w2.heap.size 1 A B C px py qx qy w') := fun W h => (spiral_any A W).mono fun _ _ ⟨a, b, e, h1, h2, hb⟩ => ⟨a, b, e, h1, h2, h.on hb⟩
  have hrf : Hid (∀ W, Ask w0 bk t ab pb w2.heap.size 1 A B C px py qx qy W → Calls Tryz.prog 23 #[.int .i64 A] W fun e w' => e = .returned (.agg #[.int .i64 (spZ A).1, .int .i64 (spZ A).2]) ∧ Ask w0 bk t ab pb w2.heap.size 1 A B C px py qx qy w') := fun W h => (refSpiral_any A W).mono fun _ _ ⟨e, os, hb⟩ => ⟨e, hb ▸ h.on (grow_below W os)⟩
  have his : Hid (∀ W, Ask w0 bk t ab pb w2.heap.size 1 A B C px py qx qy W → ∀ a b, Fl a (spZ A).1 → Fl b (spZ A).2 → Calls Tryz.prog 21 #[.complex .f64 a b, .agg #[.int .i64 (spZ A).1, .int .i64 (spZ A).2]] W fun e w' => e = .returned (.bool true) ∧ Ask w0 bk t ab pb w2.heap.size 1 A B C px py qx qy w') := fun W h a b h1 h2 => (is_true h1 h2 W).mono fun _ _ ⟨e, hb⟩ => ⟨e, h.on hb⟩
  generalize (spZ A).1 = zx at *
  generalize (spZ A).2 = zy at *
  go_upto_region 5 with fail
  go_region_held3 (fun W => Ask w0 bk t ab pb w2.heap.size 1 A B C px py qx qy W ∧ W.cell? ⟨ab, 1, none⟩ = some (.int .i64 A))
    (first | exact ⟨hS, hS.a⟩ | exact ⟨hS.drew, hS.a⟩)
    (first
      | (go_at_call 22; refine (hsp.out _ (by first | exact hS | exact hS.drew)).mono ?_; rintro e w' ⟨a1, b1, rfl, f1, f2, hS⟩)
      | (go_at_call 23; refine (hrf.out _ (by first | exact hS | exact hS.drew)).mono ?_; rintro e w' ⟨rfl, hS⟩)
      | (go_at_call 21; refine (his.out _ (by first | exact hS | exact hS.drew) _ _ f1 f2).mono ?_; rintro e w' ⟨rfl, hS⟩))
  all_goals
    go_wp2_with fail
    go_ret
    exact ⟨rfl, hS.k.more (by omega)⟩

set_option maxHeartbeats 4000000 in
theorem holds2 (A B C PX PY QX QY : Int) {w0 w : World} {bk t : Nat} (hK : Bk w0 bk t w) :
    Calls Tryz.prog 8 #[.agg #[.int .i64 2, .int .i64 A, .int .i64 B, .int .i64 C, .int .i64 PX, .int .i64 PY, .int .i64 QX, .int .i64 QY], .pointer (some ⟨bk, 0, none⟩)] w fun e w' => e = .returned (.bool true) ∧ Bk w0 bk (t + 1) w' := by
  have hp := fun w => point_any PX PY w
  have hq := fun w => point_any QX QY w
  have bpx := nearZ_bound PX
  have bpy := nearZ_bound PY
  have bqx := nearZ_bound QX
  have bqy := nearZ_bound QY
  generalize nearZ PX = px at *
  generalize nearZ PY = py at *
  generalize nearZ QX = qx at *
  generalize nearZ QY = qy at *
  obtain ⟨W1, hW1⟩ : ∃ W1, w.alloc (.cells #[.int .i64 2, .int .i64 A, .int .i64 B, .int .i64 C, .int .i64 PX, .int .i64 PY, .int .i64 QX, .int .i64 QY] 38) = W1 := ⟨_, rfl⟩
  have k0 : W1.cell? ⟨w.heap.size, 0, none⟩ = some (.int .i64 2) := by rw [← hW1]; exact World.cell?_alloc_at (w := w) _ _ _ 0 rfl
  have k1 : W1.cell? ⟨w.heap.size, 1, none⟩ = some (.int .i64 A) := by rw [← hW1]; exact World.cell?_alloc_at (w := w) _ _ _ 1 rfl
  have k2 : W1.cell? ⟨w.heap.size, 2, none⟩ = some (.int .i64 B) := by rw [← hW1]; exact World.cell?_alloc_at (w := w) _ _ _ 2 rfl
  have k3 : W1.cell? ⟨w.heap.size, 3, none⟩ = some (.int .i64 C) := by rw [← hW1]; exact World.cell?_alloc_at (w := w) _ _ _ 3 rfl
  have k4 : W1.cell? ⟨w.heap.size, 4, none⟩ = some (.int .i64 PX) := by rw [← hW1]; exact World.cell?_alloc_at (w := w) _ _ _ 4 rfl
  have k5 : W1.cell? ⟨w.heap.size, 5, none⟩ = some (.int .i64 PY) := by rw [← hW1]; exact World.cell?_alloc_at (w := w) _ _ _ 5 rfl
  have k6 : W1.cell? ⟨w.heap.size, 6, none⟩ = some (.int .i64 QX) := by rw [← hW1]; exact World.cell?_alloc_at (w := w) _ _ _ 6 rfl
  have k7 : W1.cell? ⟨w.heap.size, 7, none⟩ = some (.int .i64 QY) := by rw [← hW1]; exact World.cell?_alloc_at (w := w) _ _ _ 7 rfl
  have b1 : RowKit.Below w.heap.size w W1 := by rw [← hW1]; exact (RowKit.Below.refl _ _).alloc (Nat.le_refl _) _
  have HB : Hid (Bk w0 bk t w) := hK
  clear hK
  go_enter Tryz.func8, Tryz.ntmps8
  go_wp2_with fail
  refine (hp _).mono ?_
  rintro e w1 ⟨za, zb, rfl, fza, fzb, c1⟩
  have b2 := b1.trans (c1.mono b1.size)
  have m0 := below_cell c1 k0
  have m1 := below_cell c1 k1
  have m2 := below_cell c1 k2
  have m3 := below_cell c1 k3
  have m6 := below_cell c1 k6
  have m7 := below_cell c1 k7
  clear k0 k1 k2 k3 k4 k5 k6 k7 hW1 c1
  obtain ⟨W2, hW2⟩ : ∃ W2, w1.alloc (.cells #[.int .i64 px, .int .i64 py] 80) = W2 := ⟨_, rfl⟩
  have al := fun b i v (h : w1.cell? ⟨b, i, none⟩ = some v) => (show W2.cell? ⟨b, i, none⟩ = some v by rw [← hW2, alloc_keeps _ _ _ _ (World.block_lt_of_cell? _ _ h)]; exact h)
  have n0 := al _ _ _ m0
  have n1 := al _ _ _ m1
  have n2 := al _ _ _ m2
  have n3 := al _ _ _ m3
  have n6 := al _ _ _ m6
  have n7 := al _ _ _ m7
  have p0 : W2.cell? ⟨w1.heap.size, 0, none⟩ = some (.int .i64 px) := by rw [← hW2]; exact World.cell?_alloc_at (w := w1) _ _ _ 0 rfl
  have p1 : W2.cell? ⟨w1.heap.size, 1, none⟩ = some (.int .i64 py) := by rw [← hW2]; exact World.cell?_alloc_at (w := w1) _ _ _ 1 rfl
  have b3 : RowKit.Below w.heap.size w W2 := by rw [← hW2]; exact b2.alloc b2.size _
  clear m0 m1 m2 m3 m6 m7 al b2
  go_wp2_with fail
  refine (hq _).mono ?_
  rintro e w2 ⟨ya, yb, rfl, fya, fyb, c2⟩
  have b4 := b3.trans (c2.mono b3.size)
  have r0 := below_cell c2 n0
  have r1 := below_cell c2 n1
  have r2 := below_cell c2 n2
  have r3 := below_cell c2 n3
  have s0 := below_cell c2 p0
  have s1 := below_cell c2 p1
  clear n0 n1 n2 n3 n6 n7 p0 p1 hW2 c2 b3
  obtain ⟨W3, hW3⟩ : ∃ W3, w2.alloc (.cells #[.int .i64 qx, .int .i64 qy] 80) = W3 := ⟨_, rfl⟩
  have al := fun b i v (h : w2.cell? ⟨b, i, none⟩ = some v) => (show W3.cell? ⟨b, i, none⟩ = some v by rw [← hW3, alloc_keeps _ _ _ _ (World.block_lt_of_cell? _ _ h)]; exact h)
  have hS : Ask w0 bk t w.heap.size w1.heap.size w2.heap.size 2 A B C px py qx qy W3 :=
    ⟨HB.out.on (by rw [← hW3]; exact b4.alloc b4.size _), al _ _ _ r0, al _ _ _ r1, al _ _ _ r2, al _ _ _ r3, al _ _ _ s0, al _ _ _ s1, by rw [← hW3]; exact World.cell?_alloc_at (w := w2) _ _ _ 0 rfl, by rw [← hW3]; exact World.cell?_alloc_at (w := w2) _ _ _ 1 rfl⟩
  clear r0 r1 r2 r3 s0 s1 al b4 b1 hp hq HB
  generalize w.heap.size = ab at *
  generalize w1.heap.size = pb at *
  have e0 := hS.d
  have e1 := hS.a
  have e2 := hS.p0
  have e3 := hS.p1
  have htn : Hid (∀ W, Calls Tryz.prog 24 #[.complex .f64 za zb, .int .i64 A] W fun e w' => ∃ a b, e = .returned (.complex .f64 a b) ∧ Fl a (turnN (A % 4).toNat (px, py)).1 ∧ Fl b (turnN (A % 4).toNat (px, py)).2 ∧ w' = W) := fun W => turn_any A fza fzb W
  have hrf : Hid (∀ W, Ask w0 bk t ab pb w2.heap.size 2 A B C px py qx qy W → Calls Tryz.prog 25 #[.agg #[.int .i64 px, .int .i64 py], .int .i64 A] W fun e w' => e = .returned (.agg #[.int .i64 (turnN (A % 4).toNat (px, py)).1, .int .i64 (turnN (A % 4).toNat (px, py)).2]) ∧ Ask w0 bk t ab pb w2.heap.size 2 A B C px py qx qy w') := fun W h => (refTurn_any px py A (by omega) (by omega) W).mono fun _ _ ⟨e, hb⟩ => ⟨e, h.on hb⟩
  have his : Hid (∀ W, Ask w0 bk t ab pb w2.heap.size 2 A B C px py qx qy W → ∀ a b, Fl a (turnN (A % 4).toNat (px, py)).1 → Fl b (turnN (A % 4).toNat (px, py)).2 → Calls Tryz.prog 21 #[.complex .f64 a b, .agg #[.int .i64 (turnN (A % 4).toNat (px, py)).1, .int .i64 (turnN (A % 4).toNat (px, py)).2]] W fun e w' => e = .returned (.bool true) ∧ Ask w0 bk t ab pb w2.heap.size 2 A B C px py qx qy w') := fun W h a b h1 h2 => (is_true h1 h2 W).mono fun _ _ ⟨e, hb⟩ => ⟨e, h.on hb⟩
  generalize (turnN (A % 4).toNat (px, py)).1 = zx at *
  generalize (turnN (A % 4).toNat (px, py)).2 = zy at *
  go_upto_region 7 with fail
  go_region_held3 (fun W => Ask w0 bk t ab pb w2.heap.size 2 A B C px py qx qy W ∧ W.cell? ⟨ab, 1, none⟩ = some (.int .i64 A) ∧ W.cell? ⟨pb, 0, none⟩ = some (.int .i64 px) ∧ W.cell? ⟨pb, 1, none⟩ = some (.int .i64 py))
    (first | exact ⟨hS, hS.a, hS.p0, hS.p1⟩ | exact ⟨hS.drew, hS.a, hS.p0, hS.p1⟩)
    (first
      | (go_at_call 24; refine (htn.out _).mono ?_; rintro e w' ⟨a1, b1, rfl, f1, f2, rfl⟩)
      | (go_at_call 25; refine (hrf.out _ (by first | exact hS | exact hS.drew)).mono ?_; rintro e w' ⟨rfl, hS⟩)
      | (go_at_call 21; refine (his.out _ (by first | exact hS | exact hS.drew) _ _ f1 f2).mono ?_; rintro e w' ⟨rfl, hS⟩))
  all_goals
    go_wp2_with fail
    go_ret
    exact ⟨rfl, hS.k.more (by omega)⟩

set_option maxHeartbeats 4000000 in
theorem holds3 (A B C PX PY QX QY : Int) {w0 w : World} {bk t : Nat} (hK : Bk w0 bk t w) :
    Calls Tryz.prog 8 #[.agg #[.int .i64 3, .int .i64 A, .int .i64 B, .int .i64 C, .int .i64 PX, .int .i64 PY, .int .i64 QX, .int .i64 QY], .pointer (some ⟨bk, 0, none⟩)] w fun e w' => e = .returned (.bool true) ∧ Bk w0 bk (t + 1) w' := by
  have hp := fun w => point_any PX PY w
  have hq := fun w => point_any QX QY w
  have bpx := nearZ_bound PX
  have bpy := nearZ_bound PY
  have bqx := nearZ_bound QX
  have bqy := nearZ_bound QY
  generalize nearZ PX = px at *
  generalize nearZ PY = py at *
  generalize nearZ QX = qx at *
  generalize nearZ QY = qy at *
  obtain ⟨W1, hW1⟩ : ∃ W1, w.alloc (.cells #[.int .i64 3, .int .i64 A, .int .i64 B, .int .i64 C, .int .i64 PX, .int .i64 PY, .int .i64 QX, .int .i64 QY] 38) = W1 := ⟨_, rfl⟩
  have k0 : W1.cell? ⟨w.heap.size, 0, none⟩ = some (.int .i64 3) := by rw [← hW1]; exact World.cell?_alloc_at (w := w) _ _ _ 0 rfl
  have k1 : W1.cell? ⟨w.heap.size, 1, none⟩ = some (.int .i64 A) := by rw [← hW1]; exact World.cell?_alloc_at (w := w) _ _ _ 1 rfl
  have k2 : W1.cell? ⟨w.heap.size, 2, none⟩ = some (.int .i64 B) := by rw [← hW1]; exact World.cell?_alloc_at (w := w) _ _ _ 2 rfl
  have k3 : W1.cell? ⟨w.heap.size, 3, none⟩ = some (.int .i64 C) := by rw [← hW1]; exact World.cell?_alloc_at (w := w) _ _ _ 3 rfl
  have k4 : W1.cell? ⟨w.heap.size, 4, none⟩ = some (.int .i64 PX) := by rw [← hW1]; exact World.cell?_alloc_at (w := w) _ _ _ 4 rfl
  have k5 : W1.cell? ⟨w.heap.size, 5, none⟩ = some (.int .i64 PY) := by rw [← hW1]; exact World.cell?_alloc_at (w := w) _ _ _ 5 rfl
  have k6 : W1.cell? ⟨w.heap.size, 6, none⟩ = some (.int .i64 QX) := by rw [← hW1]; exact World.cell?_alloc_at (w := w) _ _ _ 6 rfl
  have k7 : W1.cell? ⟨w.heap.size, 7, none⟩ = some (.int .i64 QY) := by rw [← hW1]; exact World.cell?_alloc_at (w := w) _ _ _ 7 rfl
  have b1 : RowKit.Below w.heap.size w W1 := by rw [← hW1]; exact (RowKit.Below.refl _ _).alloc (Nat.le_refl _) _
  have HB : Hid (Bk w0 bk t w) := hK
  clear hK
  go_enter Tryz.func8, Tryz.ntmps8
  go_wp2_with fail
  refine (hp _).mono ?_
  rintro e w1 ⟨za, zb, rfl, fza, fzb, c1⟩
  have b2 := b1.trans (c1.mono b1.size)
  have m0 := below_cell c1 k0
  have m1 := below_cell c1 k1
  have m2 := below_cell c1 k2
  have m3 := below_cell c1 k3
  have m6 := below_cell c1 k6
  have m7 := below_cell c1 k7
  clear k0 k1 k2 k3 k4 k5 k6 k7 hW1 c1
  obtain ⟨W2, hW2⟩ : ∃ W2, w1.alloc (.cells #[.int .i64 px, .int .i64 py] 80) = W2 := ⟨_, rfl⟩
  have al := fun b i v (h : w1.cell? ⟨b, i, none⟩ = some v) => (show W2.cell? ⟨b, i, none⟩ = some v by rw [← hW2, alloc_keeps _ _ _ _ (World.block_lt_of_cell? _ _ h)]; exact h)
  have n0 := al _ _ _ m0
  have n1 := al _ _ _ m1
  have n2 := al _ _ _ m2
  have n3 := al _ _ _ m3
  have n6 := al _ _ _ m6
  have n7 := al _ _ _ m7
  have p0 : W2.cell? ⟨w1.heap.size, 0, none⟩ = some (.int .i64 px) := by rw [← hW2]; exact World.cell?_alloc_at (w := w1) _ _ _ 0 rfl
  have p1 : W2.cell? ⟨w1.heap.size, 1, none⟩ = some (.int .i64 py) := by rw [← hW2]; exact World.cell?_alloc_at (w := w1) _ _ _ 1 rfl
  have b3 : RowKit.Below w.heap.size w W2 := by rw [← hW2]; exact b2.alloc b2.size _
  clear m0 m1 m2 m3 m6 m7 al b2
  go_wp2_with fail
  refine (hq _).mono ?_
  rintro e w2 ⟨ya, yb, rfl, fya, fyb, c2⟩
  have b4 := b3.trans (c2.mono b3.size)
  have r0 := below_cell c2 n0
  have r1 := below_cell c2 n1
  have r2 := below_cell c2 n2
  have r3 := below_cell c2 n3
  have s0 := below_cell c2 p0
  have s1 := below_cell c2 p1
  clear n0 n1 n2 n3 n6 n7 p0 p1 hW2 c2 b3
  obtain ⟨W3, hW3⟩ : ∃ W3, w2.alloc (.cells #[.int .i64 qx, .int .i64 qy] 80) = W3 := ⟨_, rfl⟩
  have al := fun b i v (h : w2.cell? ⟨b, i, none⟩ = some v) => (show W3.cell? ⟨b, i, none⟩ = some v by rw [← hW3, alloc_keeps _ _ _ _ (World.block_lt_of_cell? _ _ h)]; exact h)
  have hS : Ask w0 bk t w.heap.size w1.heap.size w2.heap.size 3 A B C px py qx qy W3 :=
    ⟨HB.out.on (by rw [← hW3]; exact b4.alloc b4.size _), al _ _ _ r0, al _ _ _ r1, al _ _ _ r2, al _ _ _ r3, al _ _ _ s0, al _ _ _ s1, by rw [← hW3]; exact World.cell?_alloc_at (w := w2) _ _ _ 0 rfl, by rw [← hW3]; exact World.cell?_alloc_at (w := w2) _ _ _ 1 rfl⟩
  clear r0 r1 r2 r3 s0 s1 al b4 b1 hp hq HB
  generalize w.heap.size = ab at *
  generalize w1.heap.size = pb at *
  have e0 := hS.d
  have e2 := hS.p0
  have e3 := hS.p1
  have e4 := hS.q0
  have e5 := hS.q1
  have hap : Hid (∀ W, Calls Tryz.prog 26 #[.complex .f64 za zb, .complex .f64 ya yb] W fun e w' => e = .returned (.int .i64 (apM (px, py) (qx, qy))) ∧ w' = W) := fun W => apart_any fza fzb fya fyb (by omega) (by omega) W
  have hrf : Hid (∀ W, Ask w0 bk t ab pb w2.heap.size 3 A B C px py qx qy W → Calls Tryz.prog 27 #[.agg #[.int .i64 px, .int .i64 py], .agg #[.int .i64 qx, .int .i64 qy]] W fun e w' => e = .returned (.int .i64 (apM (px, py) (qx, qy))) ∧ Ask w0 bk t ab pb w2.heap.size 3 A B C px py qx qy w') := fun W h => (refApart_any px py qx qy (by omega) (by omega) W).mono fun _ _ ⟨e, os, hb⟩ => ⟨e, hb ▸ h.on (grow_below W os)⟩
  generalize apM (px, py) (qx, qy) = d at *
  go_upto_region 9 with fail
  go_region_held3 (fun W => Ask w0 bk t ab pb w2.heap.size 3 A B C px py qx qy W ∧ W.cell? ⟨pb, 0, none⟩ = some (.int .i64 px) ∧ W.cell? ⟨pb, 1, none⟩ = some (.int .i64 py) ∧ W.cell? ⟨w2.heap.size, 0, none⟩ = some (.int .i64 qx) ∧ W.cell? ⟨w2.heap.size, 1, none⟩ = some (.int .i64 qy))
    (first | exact ⟨hS, hS.p0, hS.p1, hS.q0, hS.q1⟩ | exact ⟨hS.drew, hS.p0, hS.p1, hS.q0, hS.q1⟩)
    (first
      | (go_at_call 26; refine (hap.out _).mono ?_; rintro e w' ⟨rfl, rfl⟩)
      | (go_at_call 27; refine (hrf.out _ (by first | exact hS | exact hS.drew)).mono ?_; rintro e w' ⟨rfl, hS⟩))
  all_goals
    go_wp2_with fail
    go_ret
    exact ⟨rfl, hS.k.more (by omega)⟩

set_option maxHeartbeats 4000000 in
theorem holds4 (A B C PX PY QX QY : Int) {w0 w : World} {bk t : Nat} (hK : Bk w0 bk t w) (ht : t ≤ 1000) :
    Calls Tryz.prog 8 #[.agg #[.int .i64 4, .int .i64 A, .int .i64 B, .int .i64 C, .int .i64 PX, .int .i64 PY, .int .i64 QX, .int .i64 QY], .pointer (some ⟨bk, 0, none⟩)] w fun e w' => e = .returned (.bool true) ∧ Bk w0 bk (t + 1) w' := by
  have hp := fun w => point_any PX PY w
  have hq := fun w => point_any QX QY w
  have bpx := nearZ_bound PX
  have bpy := nearZ_bound PY
  have bqx := nearZ_bound QX
  have bqy := nearZ_bound QY
  generalize nearZ PX = px at *
  generalize nearZ PY = py at *
  generalize nearZ QX = qx at *
  generalize nearZ QY = qy at *
  obtain ⟨W1, hW1⟩ : ∃ W1, w.alloc (.cells #[.int .i64 4, .int .i64 A, .int .i64 B, .int .i64 C, .int .i64 PX, .int .i64 PY, .int .i64 QX, .int .i64 QY] 38) = W1 := ⟨_, rfl⟩
  have k0 : W1.cell? ⟨w.heap.size, 0, none⟩ = some (.int .i64 4) := by rw [← hW1]; exact World.cell?_alloc_at (w := w) _ _ _ 0 rfl
  have k1 : W1.cell? ⟨w.heap.size, 1, none⟩ = some (.int .i64 A) := by rw [← hW1]; exact World.cell?_alloc_at (w := w) _ _ _ 1 rfl
  have k2 : W1.cell? ⟨w.heap.size, 2, none⟩ = some (.int .i64 B) := by rw [← hW1]; exact World.cell?_alloc_at (w := w) _ _ _ 2 rfl
  have k3 : W1.cell? ⟨w.heap.size, 3, none⟩ = some (.int .i64 C) := by rw [← hW1]; exact World.cell?_alloc_at (w := w) _ _ _ 3 rfl
  have k4 : W1.cell? ⟨w.heap.size, 4, none⟩ = some (.int .i64 PX) := by rw [← hW1]; exact World.cell?_alloc_at (w := w) _ _ _ 4 rfl
  have k5 : W1.cell? ⟨w.heap.size, 5, none⟩ = some (.int .i64 PY) := by rw [← hW1]; exact World.cell?_alloc_at (w := w) _ _ _ 5 rfl
  have k6 : W1.cell? ⟨w.heap.size, 6, none⟩ = some (.int .i64 QX) := by rw [← hW1]; exact World.cell?_alloc_at (w := w) _ _ _ 6 rfl
  have k7 : W1.cell? ⟨w.heap.size, 7, none⟩ = some (.int .i64 QY) := by rw [← hW1]; exact World.cell?_alloc_at (w := w) _ _ _ 7 rfl
  have b1 : RowKit.Below w.heap.size w W1 := by rw [← hW1]; exact (RowKit.Below.refl _ _).alloc (Nat.le_refl _) _
  have HB : Hid (Bk w0 bk t w) := hK
  clear hK
  go_enter Tryz.func8, Tryz.ntmps8
  go_wp2_with fail
  refine (hp _).mono ?_
  rintro e w1 ⟨za, zb, rfl, fza, fzb, c1⟩
  have b2 := b1.trans (c1.mono b1.size)
  have m0 := below_cell c1 k0
  have m1 := below_cell c1 k1
  have m2 := below_cell c1 k2
  have m3 := below_cell c1 k3
  have m6 := below_cell c1 k6
  have m7 := below_cell c1 k7
  clear k0 k1 k2 k3 k4 k5 k6 k7 hW1 c1
  obtain ⟨W2, hW2⟩ : ∃ W2, w1.alloc (.cells #[.int .i64 px, .int .i64 py] 80) = W2 := ⟨_, rfl⟩
  have al := fun b i v (h : w1.cell? ⟨b, i, none⟩ = some v) => (show W2.cell? ⟨b, i, none⟩ = some v by rw [← hW2, alloc_keeps _ _ _ _ (World.block_lt_of_cell? _ _ h)]; exact h)
  have n0 := al _ _ _ m0
  have n1 := al _ _ _ m1
  have n2 := al _ _ _ m2
  have n3 := al _ _ _ m3
  have n6 := al _ _ _ m6
  have n7 := al _ _ _ m7
  have p0 : W2.cell? ⟨w1.heap.size, 0, none⟩ = some (.int .i64 px) := by rw [← hW2]; exact World.cell?_alloc_at (w := w1) _ _ _ 0 rfl
  have p1 : W2.cell? ⟨w1.heap.size, 1, none⟩ = some (.int .i64 py) := by rw [← hW2]; exact World.cell?_alloc_at (w := w1) _ _ _ 1 rfl
  have b3 : RowKit.Below w.heap.size w W2 := by rw [← hW2]; exact b2.alloc b2.size _
  clear m0 m1 m2 m3 m6 m7 al b2
  go_wp2_with fail
  refine (hq _).mono ?_
  rintro e w2 ⟨ya, yb, rfl, fya, fyb, c2⟩
  have b4 := b3.trans (c2.mono b3.size)
  have r0 := below_cell c2 n0
  have r1 := below_cell c2 n1
  have r2 := below_cell c2 n2
  have r3 := below_cell c2 n3
  have s0 := below_cell c2 p0
  have s1 := below_cell c2 p1
  clear n0 n1 n2 n3 n6 n7 p0 p1 hW2 c2 b3
  obtain ⟨W3, hW3⟩ : ∃ W3, w2.alloc (.cells #[.int .i64 qx, .int .i64 qy] 80) = W3 := ⟨_, rfl⟩
  have al := fun b i v (h : w2.cell? ⟨b, i, none⟩ = some v) => (show W3.cell? ⟨b, i, none⟩ = some v by rw [← hW3, alloc_keeps _ _ _ _ (World.block_lt_of_cell? _ _ h)]; exact h)
  have hS : Ask w0 bk t w.heap.size w1.heap.size w2.heap.size 4 A B C px py qx qy W3 :=
    ⟨HB.out.on (by rw [← hW3]; exact b4.alloc b4.size _), al _ _ _ r0, al _ _ _ r1, al _ _ _ r2, al _ _ _ r3, al _ _ _ s0, al _ _ _ s1, by rw [← hW3]; exact World.cell?_alloc_at (w := w2) _ _ _ 0 rfl, by rw [← hW3]; exact World.cell?_alloc_at (w := w2) _ _ _ 1 rfl⟩
  clear r0 r1 r2 r3 s0 s1 al b4 b1 hp hq HB
  generalize w.heap.size = ab at *
  generalize w1.heap.size = pb at *
  have e0 := hS.d
  have e1 := hS.a
  have e2 := hS.b
  have e3 := hS.c
  obtain ⟨k, f, err, hk9, hc1, hc2⟩ := copies_both A B C
  have HC1 : Hid _ := hc1
  have HC2 : Hid _ := hc2
  clear hc1 hc2 fza fzb fya fyb bpx bpy bqx bqy
  go_wp2_with fail
  clear hW3
  refine (HC1.out _).mono ?_
  rintro e w3 ⟨a, cap, rfl, ho, hb3⟩
  have hS3 := hS.on hb3
  have f1 := hS3.a
  have f2 := hS3.b
  have f3 := hS3.c
  clear e0 e1 e2 e3 HC1
  go_wp2_with fail
  refine (HC2.out _).mono ?_
  rintro e w4 ⟨a', cap', rfl, ho', hb4⟩
  have i1 : IntsAt w4 a k f := by
    obtain ⟨a2, c2, e2, hi⟩ := IntsAt.of_own (below_own ho hb4)
    cases e2
    exact hi
  have i2 : IntsAt w4 a' k f := by
    obtain ⟨a2, c2, e2, hi⟩ := IntsAt.of_own ho'
    cases e2
    exact hi
  have heq := eqInts_same a a' k cap cap' f w4 (by omega) i1 i2
  have hnm := num_any err w4
  have HI : Hid (∀ q, Calls Tryz.prog 31 #[.pointer (some ⟨bk, 0, none⟩), .slice a k cap] (w4.drewN q) fun e w' => e = .returned (.tuple #[]) ∧ Bk w0 bk (t + 1) w') := fun q => by
    have hd : RowKit.Below w4.heap.size w4 (w4.drewN q) := below_since (since_drewN' (World.Since.refl _ _) q)
    have h34 := hb3.trans ((hb4.mono hb3.size).trans (hd.mono (Nat.le_trans hb3.size hb4.size)))
    have hz0 : w0.heap.size ≤ W3.heap.size := by
      obtain ⟨_, _, _, _, _, _, _, _, _, _, _, _, _, hx⟩ := hS.k
      exact hx.size
    exact bk_ints (by omega) (below_own (below_own ho hb4) hd) (by omega) hz0 hS.k (Nat.le_refl _) h34
  clear i1 i2 ho ho' f1 f2 f3 HC2
  go_wp2_with (first
    | (go_at_call 29; refine hnm.mono ?_; rintro e w5 ⟨rfl, rfl⟩)
    | (go_at_call 30; refine heq.mono ?_; rintro e w5 ⟨rfl, q, rfl⟩))
  refine (HI.out q).mono ?_
  rintro e w6 ⟨rfl, hB6⟩
  have hl := bk_look hB6 (by omega)
  clear HI
  go_wp2_with fail
  refine hl.mono ?_
  rintro e w7 ⟨rfl, hB7⟩
  go_wp2_with fail
  go_ret
  exact ⟨rfl, hB7⟩

set_option maxHeartbeats 4000000 in
theorem holds5 (D : Int) (A B C PX PY QX QY : Int) {w0 w : World} {bk t : Nat} (hK : Bk w0 bk t w) (ht : t ≤ 1000) (hD : D ≠ 1 ∧ D ≠ 2 ∧ D ≠ 3 ∧ D ≠ 4) :
    Calls Tryz.prog 8 #[.agg #[.int .i64 D, .int .i64 A, .int .i64 B, .int .i64 C, .int .i64 PX, .int .i64 PY, .int .i64 QX, .int .i64 QY], .pointer (some ⟨bk, 0, none⟩)] w fun e w' => e = .returned (.bool true) ∧ Bk w0 bk (t + 1) w' := by
  have hp := fun w => point_any PX PY w
  have hq := fun w => point_any QX QY w
  have bpx := nearZ_bound PX
  have bpy := nearZ_bound PY
  have bqx := nearZ_bound QX
  have bqy := nearZ_bound QY
  generalize nearZ PX = px at *
  generalize nearZ PY = py at *
  generalize nearZ QX = qx at *
  generalize nearZ QY = qy at *
  obtain ⟨W1, hW1⟩ : ∃ W1, w.alloc (.cells #[.int .i64 D, .int .i64 A, .int .i64 B, .int .i64 C, .int .i64 PX, .int .i64 PY, .int .i64 QX, .int .i64 QY] 38) = W1 := ⟨_, rfl⟩
  have k0 : W1.cell? ⟨w.heap.size, 0, none⟩ = some (.int .i64 D) := by rw [← hW1]; exact World.cell?_alloc_at (w := w) _ _ _ 0 rfl
  have k1 : W1.cell? ⟨w.heap.size, 1, none⟩ = some (.int .i64 A) := by rw [← hW1]; exact World.cell?_alloc_at (w := w) _ _ _ 1 rfl
  have k2 : W1.cell? ⟨w.heap.size, 2, none⟩ = some (.int .i64 B) := by rw [← hW1]; exact World.cell?_alloc_at (w := w) _ _ _ 2 rfl
  have k3 : W1.cell? ⟨w.heap.size, 3, none⟩ = some (.int .i64 C) := by rw [← hW1]; exact World.cell?_alloc_at (w := w) _ _ _ 3 rfl
  have k4 : W1.cell? ⟨w.heap.size, 4, none⟩ = some (.int .i64 PX) := by rw [← hW1]; exact World.cell?_alloc_at (w := w) _ _ _ 4 rfl
  have k5 : W1.cell? ⟨w.heap.size, 5, none⟩ = some (.int .i64 PY) := by rw [← hW1]; exact World.cell?_alloc_at (w := w) _ _ _ 5 rfl
  have k6 : W1.cell? ⟨w.heap.size, 6, none⟩ = some (.int .i64 QX) := by rw [← hW1]; exact World.cell?_alloc_at (w := w) _ _ _ 6 rfl
  have k7 : W1.cell? ⟨w.heap.size, 7, none⟩ = some (.int .i64 QY) := by rw [← hW1]; exact World.cell?_alloc_at (w := w) _ _ _ 7 rfl
  have b1 : RowKit.Below w.heap.size w W1 := by rw [← hW1]; exact (RowKit.Below.refl _ _).alloc (Nat.le_refl _) _
  have HB : Hid (Bk w0 bk t w) := hK
  clear hK
  go_enter Tryz.func8, Tryz.ntmps8
  go_wp2_with fail
  refine (hp _).mono ?_
  rintro e w1 ⟨za, zb, rfl, fza, fzb, c1⟩
  have b2 := b1.trans (c1.mono b1.size)
  have m0 := below_cell c1 k0
  have m1 := below_cell c1 k1
  have m2 := below_cell c1 k2
  have m3 := below_cell c1 k3
  have m6 := below_cell c1 k6
  have m7 := below_cell c1 k7
  clear k0 k1 k2 k3 k4 k5 k6 k7 hW1 c1
  obtain ⟨W2, hW2⟩ : ∃ W2, w1.alloc (.cells #[.int .i64 px, .int .i64 py] 80) = W2 := ⟨_, rfl⟩
  have al := fun b i v (h : w1.cell? ⟨b, i, none⟩ = some v) => (show W2.cell? ⟨b, i, none⟩ = some v by rw [← hW2, alloc_keeps _ _ _ _ (World.block_lt_of_cell? _ _ h)]; exact h)
  have n0 := al _ _ _ m0
  have n1 := al _ _ _ m1
  have n2 := al _ _ _ m2
  have n3 := al _ _ _ m3
  have n6 := al _ _ _ m6
  have n7 := al _ _ _ m7
  have p0 : W2.cell? ⟨w1.heap.size, 0, none⟩ = some (.int .i64 px) := by rw [← hW2]; exact World.cell?_alloc_at (w := w1) _ _ _ 0 rfl
  have p1 : W2.cell? ⟨w1.heap.size, 1, none⟩ = some (.int .i64 py) := by rw [← hW2]; exact World.cell?_alloc_at (w := w1) _ _ _ 1 rfl
  have b3 : RowKit.Below w.heap.size w W2 := by rw [← hW2]; exact b2.alloc b2.size _
  clear m0 m1 m2 m3 m6 m7 al b2
  go_wp2_with fail
  refine (hq _).mono ?_
  rintro e w2 ⟨ya, yb, rfl, fya, fyb, c2⟩
  have b4 := b3.trans (c2.mono b3.size)
  have r0 := below_cell c2 n0
  have r1 := below_cell c2 n1
  have r2 := below_cell c2 n2
  have r3 := below_cell c2 n3
  have s0 := below_cell c2 p0
  have s1 := below_cell c2 p1
  clear n0 n1 n2 n3 n6 n7 p0 p1 hW2 c2 b3
  obtain ⟨W3, hW3⟩ : ∃ W3, w2.alloc (.cells #[.int .i64 qx, .int .i64 qy] 80) = W3 := ⟨_, rfl⟩
  have al := fun b i v (h : w2.cell? ⟨b, i, none⟩ = some v) => (show W3.cell? ⟨b, i, none⟩ = some v by rw [← hW3, alloc_keeps _ _ _ _ (World.block_lt_of_cell? _ _ h)]; exact h)
  have hS : Ask w0 bk t w.heap.size w1.heap.size w2.heap.size D A B C px py qx qy W3 :=
    ⟨HB.out.on (by rw [← hW3]; exact b4.alloc b4.size _), al _ _ _ r0, al _ _ _ r1, al _ _ _ r2, al _ _ _ r3, al _ _ _ s0, al _ _ _ s1, by rw [← hW3]; exact World.cell?_alloc_at (w := w2) _ _ _ 0 rfl, by rw [← hW3]; exact World.cell?_alloc_at (w := w2) _ _ _ 1 rfl⟩
  clear r0 r1 r2 r3 s0 s1 al b4 b1 hp hq HB
  generalize w.heap.size = ab at *
  generalize w1.heap.size = pb at *
  have e0 := hS.d
  have g1 : (D == 1) = false := beq_eq_false_iff_ne.2 (by omega)
  have g2 : (D == 2) = false := beq_eq_false_iff_ne.2 (by omega)
  have g3 : (D == 3) = false := beq_eq_false_iff_ne.2 (by omega)
  have g4 : (D == 4) = false := beq_eq_false_iff_ne.2 (by omega)
  have hl := bk_look hS.k (by omega)
  go_wp2_with fail
  refine hl.mono ?_
  rintro e w7 ⟨rfl, hB7⟩
  go_wp2_with fail
  go_ret
  exact ⟨rfl, hB7.more (by omega)⟩

theorem holds_any (D A B C PX PY QX QY : Int) {w0 w : World} {bk t : Nat} (hK : Bk w0 bk t w) (ht : t ≤ 1000) :
    Calls Tryz.prog 8 #[.agg #[.int .i64 D, .int .i64 A, .int .i64 B, .int .i64 C, .int .i64 PX, .int .i64 PY, .int .i64 QX, .int .i64 QY], .pointer (some ⟨bk, 0, none⟩)] w fun e w' => e = .returned (.bool true) ∧ Bk w0 bk (t + 1) w' := by
  by_cases h1 : D = 1
  · subst h1; exact holds1 A B C PX PY QX QY hK
  · by_cases h2 : D = 2
    · subst h2; exact holds2 A B C PX PY QX QY hK
    · by_cases h3 : D = 3
      · subst h3; exact holds3 A B C PX PY QX QY hK
      · by_cases h4 : D = 4
        · subst h4; exact holds4 A B C PX PY QX QY hK ht
        · exact holds5 D A B C PX PY QX QY hK ht ⟨h1, h2, h3, h4⟩
end Go.Proofs.YtbebnjeamlmclaaGreat
