/- Package net: New, add, Double, Send. -/
import Derived.Test.YtgpmoakfbhcidaaN0
namespace Go.Proofs.Ytgpmoakfbhcidaa
open Go.RowKit
set_option maxRecDepth 100000
set_option maxRecDepth 100000

theorem infoMS : (Try.prog.info? 93).map (fun i => (i.zero, i.size, i.bytes)) = some (some (.agg #[.int .i64 0, .string ⟨#[]⟩]), 2, 24) := by kernel_rfl
theorem app_ms {w : World} {K n : Nat} {v : Value} {xs : List Value} (h : w.ownsRow K 93 2 v n xs) (x y : Value) (hx : x.oneCell' = true) (hy : y.oneCell' = true) (hn : n ≤ 1099511627776) (hK : K ≤ w.heap.size) :
    ∃ v' w', (Builtin.append_ #[73, 73] 73 #[v, .slice (some ⟨w.heap.size, 0, none⟩) 1 1]).run Try.prog (w.alloc (.cells #[x, y] 93)) = .ok v' w' ∧ w'.ownsRow K 93 2 v' (n + 1) (xs ++ [x, y]) ∧ w.grownBy w' v.ownBlock ∧ (∀ k, v'.ownBlock = some k → v.ownBlock = some k ∨ w.heap.size ≤ k) := by
  obtain ⟨i0, hi, hh⟩ := Option.map_eq_some_iff.1 infoMS
  simp only [Prod.mk.injEq] at hh
  obtain ⟨hz0, hz1, hz2⟩ := hh
  have hnews : ∀ j u, [x, y][j]? = some u → (w.alloc (.cells #[x, y] 93)).cell? ((⟨w.heap.size, 0, none⟩ : Addr).add j) = some u := fun j u hj => by
    match j with
    | 0 => simp at hj; subst hj; simp [Addr.add]
    | 1 => simp at hj; subst hj; simp [Addr.add]
    | j + 2 => simp at hj
  have hml : maxLen = 9223372036854775807 := rfl
  obtain ⟨v', w', h1, h2, h3, _, h5⟩ := run_append_own_at (P := Try.prog) (w.alloc (.cells #[x, y] 93)) K 73 73 93 i0 _ 2 24 Try.underlying73 hi hz0 hz1 hz2 rfl (by decide) v n xs (h.alloc _) ⟨w.heap.size, 0, none⟩ 1 1 [x, y] rfl hnews (fun u hu => by
    simp only [List.mem_cons, List.not_mem_nil, or_false] at hu
    rcases hu with e | e
    · rw [e]; exact hx
    · rw [e]; exact hy) (by omega) (by omega) (by simp; omega)
  have hsz : (w.alloc (.cells #[x, y] 93)).heap.size = w.heap.size + 1 := by simp
  refine ⟨v', w', h1, h2, ⟨h3.os, h3.tape, h3.output, by have := h3.size; omega, fun b hb hne => (h3.block b (by omega) hne).trans (Below.heap_alloc _ _ _ hb)⟩, fun k e => ?_⟩
  rcases h5 with e5 | e5
  · exact .inl (e5 ▸ e)
  · rw [e5] at e
    exact .inr (by have := Option.some.inj e; omega)

section
variable {w w' : World} {B nb : Nat} {mv : Value} {room lost : Nat} {ms : List Ms}
set_option maxHeartbeats 1600000 in
theorem add_any (h : NetIs w B nb mv room ms lost) (hB : B ≤ w.heap.size) (hl : ms.length < room) (x : Int) (s : ByteArray) :
    Calls Try.prog 41 #[.pointer (some ⟨nb, 0, none⟩), .agg #[.int .i64 x, .string s]] w fun e w' => e = .returned (.tuple #[]) ∧ ∃ mv', NetIs w' B nb mv' room (ms ++ [⟨x, s⟩]) lost ∧ Mv (NFt nb mv) (NFt nb mv') w w' := by
  have hrm := h.rm
  obtain ⟨W0, HW0⟩ : ∃ W, Hid (w.alloc (.cells #[.int .i64 x, .string s] 93) = W) := ⟨_, rfl⟩
  have hb0 : Below w.heap.size w W0 := by rw [← HW0.out]; exact (Below.refl _ _).alloc (Nat.le_refl _) _
  have hz0 : W0.heap.size = w.heap.size + 1 := by rw [← HW0.out]; simp
  have b0 : W0.cell? ⟨w.heap.size, 0, none⟩ = some (.int .i64 x) := by rw [← HW0.out]; exact World.cell?_alloc_at (w := w) _ _ _ 0 rfl
  have b1 : W0.cell? ⟨w.heap.size, 1, none⟩ = some (.string s) := by rw [← HW0.out]; exact World.cell?_alloc_at (w := w) _ _ _ 1 rfl
  have h0 : NetIs W0.drew B nb mv room ms lost := h.later (fun k hf => hb0.block k (h.ge k hf).2)
  obtain ⟨mv', w3, hrun, ho3, hg3, hl3⟩ := app_ms h0.own (.int .i64 x) (.string s) rfl rfl (by omega) (by show B ≤ W0.heap.size; omega)
  obtain ⟨ca, cc, emv⟩ : ∃ ca cc, mv' = .slice ca (ms.length + 1) cc := by
    rcases ho3.2 with ⟨_, h0⟩ | ⟨g, cap, cur, e, _⟩
    · omega
    · exact ⟨_, cap, e⟩
  subst emv
  have hnb : nb < W0.drew.heap.size := h0.row.lt
  have hr3 : w3.rowIs nb 78 3 (netCell room mv lost) := h0.row.of_block (hg3.block nb hnb (fun e => h0.nm e.symm))
  have p3 : w3.cell? ⟨nb, 1, none⟩ = some mv := hr3.cell (i := 1) (by decide)
  have f3 : w3.frozen? ⟨nb, 1, none⟩ = false := hr3.frozen 1
  obtain ⟨W4, HW4⟩ : ∃ W, Hid (w3.setCell ⟨nb, 1, none⟩ (.slice ca (ms.length + 1) cc) = W) := ⟨_, rfl⟩
  have hset : ∀ b, b ≠ nb → W4.heap[b]? = w3.heap[b]? := fun b hb => by rw [← HW4.out]; exact Below.heap_setCell _ _ _ _ hb
  have hz4 : W4.heap.size = w3.heap.size := by rw [← HW4.out]; simp [World.setCell]
  have hmd' : (Value.slice ca (ms.length + 1) cc).ownBlock ≠ some nb := fun e => rows_apart ho3 hr3 (by decide) e
  have K : ∃ mv', NetIs W4 B nb mv' room (ms ++ [⟨x, s⟩]) lost ∧ Mv (NFt nb mv) (NFt nb mv') w W4 := by
    have hs3 : W0.heap.size ≤ w3.heap.size := hg3.size
    refine ⟨.slice ca (ms.length + 1) cc, ⟨?_, ?_, h.lb, by rw [List.length_append]; show ms.length + 1 ≤ room; omega, h.rm⟩, ?_, ?_, ?_, by omega, fun k hk hn => ?_, fun k hf => ?_⟩
    · rw [← HW4.out]
      refine (hr3.set 1 _).congr (fun i hi => ?_)
      match i, hi with
      | 0, _ => rfl
      | 1, _ => rfl
      | 2, _ => rfl
    · rw [msCells_app, List.length_append]
      exact rows_keep ho3 (fun q e => hset q (fun e2 => hmd' (e2 ▸ e)))
    · rw [← HW4.out]; show w3.os = _; rw [hg3.os]; exact hb0.os
    · rw [← HW4.out]; show w3.tape = _; rw [hg3.tape]; exact hb0.tape
    · rw [← HW4.out]; show w3.output = _; rw [hg3.output]; exact hb0.output
    · refine (hset k (fun e => hn (.inl e))).trans ((hg3.block k (by show k < W0.heap.size; omega) (fun e => hn (.inr e.symm))).trans (hb0.block k hk))
    · rcases hf with e | e
      · exact .inl (.inl e)
      · rcases hl3 k e with q | q
        · exact .inl (.inr q)
        · exact .inr (by have : W0.heap.size ≤ k := q; omega)
  have HK : Hid (∃ mv', NetIs W4 B nb mv' room (ms ++ [⟨x, s⟩]) lost ∧ Mv (NFt nb mv) (NFt nb mv') w W4) := K
  have HR : Hid _ := hrun
  have c1d : W0.drew.cell? ⟨nb, 1, none⟩ = some mv := h0.c1
  have b0d : W0.drew.cell? ⟨w.heap.size, 0, none⟩ = some (.int .i64 x) := b0
  have b1d : W0.drew.cell? ⟨w.heap.size, 1, none⟩ = some (.string s) := b1
  have c1n : W0.cell? ⟨nb, 1, none⟩ = some mv := c1d
  have c1a : ∀ o, (W0.alloc o).cell? ⟨nb, 1, none⟩ = some mv := fun o => by rw [World.cell?_alloc_some _ _ _ (by rw [c1n]; rfl)]; exact c1n
  clear hrun K h h0 ho3 hg3 hl3 hr3 hset hmd' hb0 hz0 hz4 hnb b0 b1 hl hrm hB
  go_enter Try.func41, Try.ntmps41
  go_upto_region 1 with fail
  rw [HW0.out]
  go_region_law (first
    | (refine step_apps2 (by rfl) _ _ 73 (by rfl) _ _ _ (by rfl) (by rfl) HR.out ?_))
  all_goals
    go_wp2_with fail
    rw [HW4.out]
    go_end0
    exact ⟨rfl, HK.out⟩

/-- A new net. -/
theorem new_any (n : Nat) (h1 : 1 ≤ n) (h2 : n ≤ 8192) (w : World) :
    Calls Try.prog 18 #[.int .i64 (n : Nat)] w fun e w' => e = .returned (.tuple #[.pointer (some ⟨w.heap.size, 0, none⟩), .int .i64 0]) ∧ NetIs w' w.heap.size w.heap.size (.slice none 0 0) n [] 0 ∧ Below w.heap.size w w' ∧ w'.heap.size = w.heap.size + 1 := by
  have H : Hid (NetIs (w.alloc (.cells #[.int .i64 (n : Nat), .slice none 0 0, .int .u64 0] 78)) w.heap.size w.heap.size (.slice none 0 0) n [] 0 ∧ Below w.heap.size w (w.alloc (.cells #[.int .i64 (n : Nat), .slice none 0 0, .int .u64 0] 78)) ∧ (w.alloc (.cells #[.int .i64 (n : Nat), .slice none 0 0, .int .u64 0] 78)).heap.size = w.heap.size + 1) := by
    refine ⟨⟨?_, ⟨rfl, .inl ⟨rfl, rfl⟩⟩, Nat.le_refl _, Nat.zero_le _, h2⟩, (Below.refl _ _).alloc (Nat.le_refl _) _, by simp⟩
    refine World.rowIs_alloc w _ _ _ (fun i hi => ?_)
    match i, hi with
    | 0, _ => rfl
    | 1, _ => rfl
    | 2, _ => rfl
  have hz1 : ¬ (n : Int) < 1 := by omega
  have hz2 : ¬ (n : Int) > 8192 := by omega
  go_enter Try.func18, Try.ntmps18
  go_wp2
  go_ret2
  exact ⟨rfl, H.out⟩
theorem new_not (n : Int) (h : n < 1 ∨ 8192 < n) (w : World) :
    Calls Try.prog 18 #[.int .i64 n] w fun e w' => e = .returned (.tuple #[.pointer none, .int .i64 60]) ∧ w' = w := by
  by_cases hz1 : n < 1
  · go_enter Try.func18, Try.ntmps18
    go_wp2
    go_ret2
    exact ⟨rfl, rfl⟩
  · have hz2 : n > 8192 := by omega
    go_enter Try.func18, Try.ntmps18
    go_wp2
    go_ret2
    exact ⟨rfl, rfl⟩
end
end Go.Proofs.Ytgpmoakfbhcidaa
