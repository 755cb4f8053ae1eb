/- The Book as one thing with its footprint; told, where all is marked. -/
import Derived.Test.YtgpmoakfbhcidaaX9
namespace Go.Proofs.Ytgpmoakfbhcidaa
open Go.RowKit
set_option maxRecDepth 100000
set_option maxRecDepth 100000

/-- The Book between two calls, at most T turns; G: what of memory is its. -/
def BkIs (w : World) (B bk T : Nat) (G : Nat → Prop) : Prop := ∃ n A ln C M bv ov at' turn done used, BookOk w B bk n A ln C M bv ov at' turn done used ∧ turn ≤ T ∧ ∀ k, G k ↔ BF bk n A bv ov k
section
variable {w w' : World} {B bk T : Nat} {G : Nat → Prop}
theorem BkIs.later (h : BkIs w B bk T G) (hz : w.heap.size ≤ w'.heap.size) (hb : ∀ k, G k → w'.heap[k]? = w.heap[k]?) : BkIs w' B bk T G := by
  obtain ⟨n, A, ln, C, M, bv, ov, at', turn, done, used, h1, h2, h3⟩ := h
  exact ⟨n, A, ln, C, M, bv, ov, at', turn, done, used, ⟨h1.is.later hz (fun k hk => hb k ((h3 k).2 hk)), h1.hat, h1.hU, h1.hu, h1.hl, h1.hl2⟩, h2, h3⟩
theorem BkIs.ge (h : BkIs w B bk T G) : ∀ k, G k → B ≤ k ∧ k < w.heap.size := fun k hk => by
  obtain ⟨n, A, ln, C, M, bv, ov, at', turn, done, used, h1, h2, h3⟩ := h
  exact h1.is.ge k ((h3 k).1 hk)
theorem BkIs.on (h : BkIs w B bk T G) (hb : Below w.heap.size w w') : BkIs w' B bk T G := h.later hb.size (fun k hk => hb.block k (h.ge k hk).2)
theorem BkIs.mono {T' : Nat} (h : BkIs w B bk T G) (ht : T ≤ T') : BkIs w B bk T' G := by
  obtain ⟨n, A, ln, C, M, bv, ov, at', turn, done, used, h1, h2, h3⟩ := h
  exact ⟨n, A, ln, C, M, bv, ov, at', turn, done, used, h1, Nat.le_trans h2 ht, h3⟩
theorem BkIs.bytes (h : BkIs w B bk T G) (hB : B ≤ w.heap.size) (hT : T ≤ 900000000) (a : Option Addr) (len cap : Nat) (x : Nat → Nat) (hl : OwnZ w B (.slice a len cap) len x) (hfree : ∀ ad, a = some ad → ¬ G ad.block) (hlen : len ≤ 140737488351232) :
    Calls Try.prog 52 #[.pointer (some ⟨bk, 0, none⟩), .slice a len cap] w fun e w' => e = .returned (.tuple #[]) ∧ ∃ G', BkIs w' B bk (T + 1) G' ∧ Mv (fun k => G k ∨ ∃ ad, a = some ad ∧ ad.block = k) G' w w' := by
  obtain ⟨n, A, ln, C, M, bv, ov, at', turn, done, used, h1, h2, h3⟩ := h
  refine (bookBytes h1.is hB a len cap x hl (fun ad e hf => hfree ad e ((h3 _).2 hf)) h1.hat (by omega) hlen h1.hU h1.hu h1.hl h1.hl2).mono fun e w' ⟨he, n', A', ln', C', M', bv', ov', used', q1, q2, q3, q4, q5, q6, q7⟩ => ⟨he, _, ⟨n', A', ln', C', M', bv', ov', at', turn + 1, done, used', ⟨q1, q2, q3, q4, q5, q6⟩, by omega, fun _ => Iff.rfl⟩, ?_⟩
  exact ⟨q7.os, q7.tape, q7.output, q7.size, fun k hk hn => q7.block k hk (fun hf => hn (hf.imp_left (fun e => (h3 k).2 e))), fun k hf => (q7.foot k hf).imp_left (fun q => q.imp_left (fun e => (h3 k).2 e))⟩
theorem BkIs.look (h : BkIs w B bk T G) (hB : B ≤ w.heap.size) (hT : T ≤ 1000000000) :
    Calls Try.prog 8 #[.pointer (some ⟨bk, 0, none⟩)] w fun e w' => e = .returned (.bool true) ∧ ∃ G', BkIs w' B bk T G' ∧ Mv G G' w w' := by
  obtain ⟨n, A, ln, C, M, bv, ov, at', turn, done, used, h1, h2, h3⟩ := h
  refine (book_look h1 hB (by omega)).mono fun e w' ⟨he, n', A', ln', C', M', bv', ov', at2, done2, q1, q2⟩ => ⟨he, _, ⟨n', A', ln', C', M', bv', ov', at2, turn, done2, used, q1, h2, fun _ => Iff.rfl⟩, ?_⟩
  exact ⟨q2.os, q2.tape, q2.output, q2.size, fun k hk hn => q2.block k hk (fun hf => hn ((h3 k).2 hf)), fun k hf => (q2.foot k hf).imp_left (fun q => (h3 k).2 q)⟩
theorem BkIs.row (h : BkIs w B bk T G) : ∃ f, w.rowIs bk 44 39 f ∧ G bk := by
  obtain ⟨n, A, ln, C, M, bv, ov, at', turn, done, used, h1, h2, h3⟩ := h
  exact ⟨_, h1.is.row, (h3 bk).2 (.inl rfl)⟩
end
/-- What a call on the pair k leaves, the Book beside it. -/
def WentM (B sb bk k L T : Nat) (nv vv : Nat → Value) (F : Nat → Nat → Prop) (G : Nat → Prop) (w w' : World) : Prop :=
  ∃ P' F' G', StIs w' B sb bk true P' nv vv F' ∧ Mv (fun q => SFt sb F q ∨ G q) (fun q => SFt sb F' q ∨ G' q) w w' ∧ LostLe P' L ∧ (∃ m, P' k = some m) ∧ BkIs w' B bk (T + 1) G' ∧ ∀ q, G' q → ¬ SFt sb F' q
section
variable {w w' : World} {B sb bk T : Nat} {G : Nat → Prop} {P : Nat → Option PM} {nv vv : Nat → Value} {F : Nat → Nat → Prop}
/-- A step of the stage leaves the Book. -/
theorem book_mv {F' : Nat → Nat → Prop} (hK : BkIs w B bk T G) (hd : ∀ q, G q → ¬ SFt sb F q) (hM : Mv (SFt sb F) (SFt sb F') w w') : BkIs w' B bk T G ∧ (∀ q, G q → ¬ SFt sb F' q) ∧ Mv (fun q => SFt sb F q ∨ G q) (fun q => SFt sb F' q ∨ G q) w w' := by
  refine ⟨hK.later hM.size (fun k hk => hM.block k (hK.ge k hk).2 (hd k hk)), fun q hq hf => ?_, hM.os, hM.tape, hM.output, hM.size, fun k hk hn => hM.block k hk (fun e => hn (.inl e)), fun k hf => ?_⟩
  · rcases hM.foot q hf with e | e
    · exact hd q hq e
    · have := (hK.ge q hq).2; omega
  · rcases hf with e | e
    · exact (hM.foot k e).imp_left .inl
    · exact .inl (.inr e)
theorem Went.m {k L : Nat} (h : Went B sb bk true k L nv vv F w w') (hK : BkIs w B bk T G) (hd : ∀ q, G q → ¬ SFt sb F q) : WentM B sb bk k L T nv vv F G w w' := by
  obtain ⟨P', F', h1, h2, h3, h4⟩ := h.is
  obtain ⟨q1, q2, q3⟩ := book_mv hK hd h2
  exact ⟨P', F', G, h1, q3, h3, h4, q1.mono (Nat.le_succ T), q2⟩
set_option maxHeartbeats 1600000 in
/-- told, where all is marked. -/
theorem told_mark (h : StIs w B sb bk true P nv vv F) (hK : BkIs w B bk T G) (hd : ∀ q, G q → ¬ SFt sb F q) (hT : T ≤ 900000000) (x : Int) (ok : Bool) (a b : Option Addr) (n c d : Nat) (y : Nat → Nat) (ho : OwnZ w B (.slice a n c) n y) (hfa : ∀ q, a = some q → ¬ SFt sb F q.block ∧ ¬ G q.block) (ha : Byt w a n y) (hb : Byt w b n y) (hmax : n ≤ 140737488351232) :
    Calls Try.prog 28 #[.pointer (some ⟨sb, 0, none⟩), .agg #[.int .i64 x, .slice a n c], .bool ok, .agg #[.int .i64 x, .slice b n d], .bool ok] w fun e w' => e = .returned (.bool true) ∧ StIs w' B sb bk true P nv vv F ∧ ∃ G', BkIs w' B bk (T + 1) G' ∧ (∀ q, G' q → ¬ SFt sb F q) ∧ Mv (fun k => G k ∨ ∃ ad, a = some ad ∧ ad.block = k) G' w w' := by
  obtain ⟨W, HW⟩ : ∃ W, Hid ((w.alloc (.cells #[.int .i64 x, .slice a n c] 70)).alloc (.cells #[.int .i64 x, .slice b n d] 70) = W) := ⟨_, rfl⟩
  have h1 := row2_alloc w (.int .i64 x) (.slice a n c) 70
  have hz1 : (w.alloc (.cells #[.int .i64 x, .slice a n c] 70)).heap.size = w.heap.size + 1 := by simp
  have h2 := row2_alloc (w.alloc (.cells #[.int .i64 x, .slice a n c] 70)) (.int .i64 x) (.slice b n d) 70
  rw [HW.out, hz1] at h2
  have h1' : W.rowIs w.heap.size 70 2 (fun i => if i = 0 then .int .i64 x else .slice a n c) := h1.of_block (by rw [← HW.out]; exact Below.heap_alloc _ _ _ (by omega))
  have hzW : W.heap.size = w.heap.size + 2 := by rw [← HW.out]; simp
  have hBW : Below w.heap.size w W := by rw [← HW.out]; exact ((Below.refl _ _).alloc (Nat.le_refl _) _).alloc (by simp) _
  have p0 : W.cell? ⟨w.heap.size, 0, none⟩ = some (.int .i64 x) := h1'.cell (i := 0) (by decide)
  have p1 : W.cell? ⟨w.heap.size, 1, none⟩ = some (.slice a n c) := h1'.cell (i := 1) (by decide)
  have q0 : W.cell? ⟨w.heap.size + 1, 0, none⟩ = some (.int .i64 x) := h2.cell (i := 0) (by decide)
  have q1 : W.cell? ⟨w.heap.size + 1, 1, none⟩ = some (.slice b n d) := h2.cell (i := 1) (by decide)
  have hBw : B ≤ w.heap.size := by have := h.lb; have := h.row.lt; omega
  have HS : Hid (Calls Try.prog 21 #[.agg #[.int .i64 x, .slice a n c], .agg #[.int .i64 x, .slice b n d]] W fun e w1 => e = .returned (.bool true) ∧ w1.cell? ⟨sb, 5, none⟩ = some (.bool true) ∧ w1.cell? ⟨sb, 4, none⟩ = some (.pointer (some ⟨bk, 0, none⟩)) ∧ w1.cell? ⟨w.heap.size, 1, none⟩ = some (.slice a n c) ∧
      Hid (Calls Try.prog 52 #[.pointer (some ⟨bk, 0, none⟩), .slice a n c] w1.drew fun e w' => e = .returned (.tuple #[]) ∧ Hid (StIs w' B sb bk true P nv vv F ∧ ∃ G', BkIs w' B bk (T + 1) G' ∧ (∀ q, G' q → ¬ SFt sb F q) ∧ Mv (fun k => G k ∨ ∃ ad, a = some ad ∧ ad.block = k) G' w w'))) :=
    (same_any x a b n c d y W (ha.on hBW) (hb.on hBW) (by omega)).mono fun e w1 ⟨he, hb'⟩ => by
      have hb2 : Below w.heap.size w w1 := hBW.trans (hb'.mono hBW.size)
      have hb2d : Below w.heap.size w w1.drew := hb2.drew
      have hs1 := h.on hb2
      refine ⟨he, hs1.row.cell (i := 5) (by decide), hs1.row.cell (i := 4) (by decide), cel_on hb' p1, ?_⟩
      have hK1 := hK.on hb2d
      have ho1 : OwnZ w1.drew B (.slice a n c) n y := ownZ_keep ho (fun k e => hb2d.block k (ownZ_lt ho k e))
      refine (hK1.bytes (Nat.le_trans hBw hb2d.size) hT a n c y ho1 (fun ad e => (hfa ad e).2) hmax).mono fun e w2 ⟨he2, G', k1, k2⟩ => ⟨he2, ?_⟩
      have hMw : Mv (fun k => G k ∨ ∃ ad, a = some ad ∧ ad.block = k) G' w w2 := Mv.after hb2d k2
      refine ⟨h.later (fun q hq => hMw.block q (h.ge q hq).2 (fun e => ?_)), G', k1, fun q hq hf => ?_, hMw⟩
      · rcases e with e | ⟨ad, e1, e2⟩
        · exact hd q e hq
        · exact (hfa ad e1).1 (e2 ▸ hq)
      · rcases hMw.foot q hq with (e | ⟨ad, e1, e2⟩) | e
        · exact hd q e hf
        · exact (hfa ad e1).1 (e2 ▸ hf)
        · have := (h.ge q hf).2; omega
  have hoo : (ok == ok) = true := by simp
  clear h h1 h2 h1' hBW ha hb hz1 hK hd ho hfa hzW
  go_enter Try.func28, Try.ntmps28
  go_upto_region 1 with fail
  rw [HW.out]
  go_wp2_with fail
  refine HS.out.mono ?_
  rintro e w1 ⟨rfl, c5, c4, c1, HB⟩
  have c4d : w1.drew.cell? ⟨sb, 4, none⟩ = some (.pointer (some ⟨bk, 0, none⟩)) := c4
  have c1d : w1.drew.cell? ⟨w.heap.size, 1, none⟩ = some (.slice a n c) := c1
  clear HS p0 p1 q0 q1
  go_upto_region 3 with fail
  go_region_law (first
    | (go_simp; go_at_call 52; refine HB.out.mono ?_; rintro e w2 ⟨rfl, HE⟩))
  all_goals
    go_wp2_with fail
    go_ret
    exact ⟨rfl, HE.out⟩
theorem told_went {w5 W' : World} {k L : Nat} {P' : Nat → Option PM} {F' : Nat → Nat → Prop} (hs : StIs w5 B sb bk true P' nv vv F') (hK : BkIs w5 B bk T G) (hd : ∀ q, G q → ¬ SFt sb F' q) (hM : Mv (fun q => SFt sb F q ∨ G q) (fun q => SFt sb F' q ∨ G q) w w5) (hW' : Below w5.heap.size w5 W') (hT : T ≤ 900000000) (x : Int) (ok : Bool) (a b : Option Addr) (n c d : Nat) (y : Nat → Nat) (ho : OwnZ W' B (.slice a n c) n y) (hfa : ∀ q, a = some q → w.heap.size ≤ q.block ∧ ¬ SFt sb F' q.block ∧ ¬ G q.block) (ha : Byt W' a n y) (hb : Byt W' b n y) (hmax : n ≤ 140737488351232) (hL : LostLe P' L) (hm : ∃ m, P' k = some m) :
    Calls Try.prog 28 #[.pointer (some ⟨sb, 0, none⟩), .agg #[.int .i64 x, .slice a n c], .bool ok, .agg #[.int .i64 x, .slice b n d], .bool ok] W' fun e w6 => e = .returned (.bool true) ∧ WentM B sb bk k L T nv vv F G w w6 := by
  refine (told_mark (hs.on hW') (hK.on hW') hd hT x ok a b n c d y ho (fun q e => (hfa q e).2) ha hb hmax).mono fun e w6 ⟨he, h1, G', h2, h3, h4⟩ => ⟨he, P', F', G', h1, ?_, hL, hm, h2, h3⟩
  have z1 := hM.size
  have z2 := hW'.size
  have z3 := h4.size
  refine ⟨h4.os.trans (hW'.os.trans hM.os), h4.tape.trans (hW'.tape.trans hM.tape), h4.output.trans (hW'.output.trans hM.output), by omega, fun q hq hn => ?_, fun q hq => ?_⟩
  · refine (h4.block q (by omega) (fun e => ?_)).trans ((hW'.block q (by omega)).trans (hM.block q hq hn))
    rcases e with e | ⟨ad, e1, e2⟩
    · exact hn (.inr e)
    · have := (hfa ad e1).1; omega
  · rcases hq with e | e
    · exact hM.foot q (.inl e)
    · rcases h4.foot q e with (e | ⟨ad, e1, e2⟩) | e
      · exact .inl (.inr e)
      · exact .inr (by have := (hfa ad e1).1; omega)
      · exact .inr (by omega)
end
end Go.Proofs.Ytgpmoakfbhcidaa
