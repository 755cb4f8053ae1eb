/- The Shelf of lists of bytes: Bytes. -/
import Derived.Test.YtgpmoakfbhcidaaYA4
namespace Go.Proofs.Ytgpmoakfbhcidaa
open Go.RowKit
set_option maxRecDepth 100000
set_option maxRecDepth 100000

/-- The Shelf, behind so many calls at most; G: what of memory is its. -/
def ShIs (w : World) (B xb T : Nat) (G : Nat → Prop) : Prop := ∃ sz N kv ov A A' ln C C' X, ShB w B xb sz N kv ov A A' ln C C' X ∧ sz ≤ T * 140737488355328 ∧ ∀ q, G q ↔ HFt xb N kv ov A A' q
section
variable {w w' : World} {B xb T : Nat} {G : Nat → Prop}
theorem ShIs.later (h : ShIs w B xb T G) (hb : ∀ q, G q → w'.heap[q]? = w.heap[q]?) : ShIs w' B xb T G := by
  obtain ⟨sz, N, kv, ov, A, A', ln, C, C', X, h1, h2, h3⟩ := h
  exact ⟨sz, N, kv, ov, A, A', ln, C, C', X, h1.later (fun q hq => hb q ((h3 q).2 hq)), h2, h3⟩
theorem ShIs.ge (h : ShIs w B xb T G) : ∀ q, G q → B ≤ q ∧ q < w.heap.size := fun q hq => by
  obtain ⟨sz, N, kv, ov, A, A', ln, C, C', X, h1, h2, h3⟩ := h
  exact h1.ge q ((h3 q).1 hq)
theorem ShIs.on (h : ShIs w B xb T G) (hb : Below w.heap.size w w') : ShIs w' B xb T G := h.later (fun q hq => hb.block q (h.ge q hq).2)
theorem ShIs.mono {T' : Nat} (h : ShIs w B xb T G) (ht : T ≤ T') : ShIs w B xb T' G := by
  obtain ⟨sz, N, kv, ov, A, A', ln, C, C', X, h1, h2, h3⟩ := h
  exact ⟨sz, N, kv, ov, A, A', ln, C, C', X, h1, Nat.le_trans h2 (Nat.mul_le_mul_right _ ht), h3⟩
end
/-- The size is set. -/
theorem ShB.size {w w' : World} {B xb sz N : Nat} {kv ov : Value} {A A' : Nat → Option Addr} {ln C C' : Nat → Nat} {X : Nat → Nat → Nat} (h : ShB w B xb sz N kv ov A A' ln C C' X) {s : Nat} (hs : sz ≤ s) (e : w' = w.setCell ⟨xb, 0, none⟩ (.int .i64 (s : Nat))) :
    ShB w' B xb s N kv ov A A' ln C C' X ∧ Mv (HFt xb N kv ov A A') (HFt xb N kv ov A A') w w' := by
  have hset : ∀ b, b ≠ xb → w'.heap[b]? = w.heap[b]? := fun b hb => by rw [e]; exact Below.heap_setCell _ _ _ _ hb
  have z : w'.heap.size = w.heap.size := by rw [e]; simp [World.setCell]
  refine ⟨⟨?_, owns_keep h.lst (fun q e => hset q (fun e2 => rows_apart h.lst h.row (by decide) (e2 ▸ e))), owns_keep h.olst (fun q e => hset q (fun e2 => rows_apart h.olst h.row (by decide) (e2 ▸ e))), h.fam.keep (fun i g hi e => hset g (fun e2 => ownZ_row_ne (h.fam.own i hi) h.row (by decide) (e2 ▸ e))), fun i hi => ?_, h.ko, h.lb, h.ll, by have := h.cnt; omega, h.hN⟩, by rw [e]; rfl, by rw [e]; rfl, by rw [e]; rfl, by omega, fun q _ hn => hset q (fun e => hn (.inl e)), fun q hf => .inl hf⟩
  · rw [e]
    refine (h.row.set 0 _).congr (fun i hi => ?_)
    unfold shB
    by_cases e : i = 0
    · rw [if_pos e, if_pos e]
    · rw [if_neg e, if_neg e, if_neg e]
  · obtain ⟨g, e1, hg, hr⟩ := h.was i hi
    exact ⟨g, e1, hg, hr.of_block (hset g (fun e2 => rowIs_apart hr h.row (by decide) e2))⟩
/-- One list more, and beside it what it holds. -/
theorem ShB.push {w : World} {B xb sz N : Nat} {kv ov : Value} {A A' : Nat → Option Addr} {ln C C' : Nat → Nat} {X : Nat → Nat → Nat} (h : ShB w B xb sz N kv ov A A' ln C C' X) (hB : B ≤ w.heap.size) (a : Option Addr) (n c : Nat) (y : Nat → Nat) (ho : OwnZ w B (.slice a n c) n y) (hfree : ∀ ad, a = some ad → ¬ HFt xb N kv ov A A' ad.block) (hcnt : 50 * (N + 1) ≤ sz) (hsz : sz ≤ 4194304) (hn : n ≤ 4194304) :
    ∃ ka kc w2, (Builtin.append_ #[30, 30] 30 #[kv, .slice (some ⟨w.heap.size, 0, none⟩) 1 1]).run Try.prog (w.alloc (.cells #[.slice a n c] 53)) = .ok (.slice ka (N + 1) kc) w2 ∧ w2.cell? ⟨xb, 3, none⟩ = some kv ∧ w2.frozen? ⟨xb, 3, none⟩ = false ∧
      (∀ w3, w3 = w2.setCell ⟨xb, 3, none⟩ (.slice ka (N + 1) kc) → w3.cell? ⟨xb, 4, none⟩ = some ov ∧ ∀ W, Below w3.heap.size w3 W → Calls Try.prog 42 #[.slice a n c] W fun e w4 => ∃ g, e = .returned (.slice (some ⟨g, 0, none⟩) n n) ∧ w4.cell? ⟨xb, 4, none⟩ = some ov ∧
        ∃ oa oc w5, (Builtin.append_ #[30, 30] 30 #[ov, .slice (some ⟨w4.heap.size, 0, none⟩) 1 1]).run Try.prog (w4.alloc (.cells #[.slice (some ⟨g, 0, none⟩) n n] 53)) = .ok (.slice oa (N + 1) oc) w5 ∧ w5.cell? ⟨xb, 4, none⟩ = some ov ∧ w5.frozen? ⟨xb, 4, none⟩ = false ∧
          Hid (∀ w6, w6 = w5.setCell ⟨xb, 4, none⟩ (.slice oa (N + 1) oc) → ShB w6 B xb sz (N + 1) (.slice ka (N + 1) kc) (.slice oa (N + 1) oc) (put A N a) (put A' N (some ⟨g, 0, none⟩)) (put ln N n) (put C N c) (put C' N n) (put X N y) ∧ Mv (fun k => HFt xb N kv ov A A' k ∨ ∃ ad, a = some ad ∧ ad.block = k) (HFt xb (N + 1) (.slice ka (N + 1) kc) (.slice oa (N + 1) oc) (put A N a) (put A' N (some ⟨g, 0, none⟩))) w w6)) := by
  have hN := h.hN
  obtain ⟨ka, kc, w2, hrun, hr2, hall⟩ := app_cell (i := 3) h.row (by decide) h.lst a n c (by omega) hB
  refine ⟨ka, kc, w2, hrun, hr2.cell (i := 3) (by decide), hr2.frozen 3, fun w3 e3 => ?_⟩
  obtain ⟨r3, l3, m3⟩ := hall w3 e3
  have k3 : ∀ q, q < w.heap.size → q ≠ xb → kv.ownBlock ≠ some q → w3.heap[q]? = w.heap[q]? := fun q hq h1 h2 => m3.block q hq (fun e => e.elim h1 h2)
  have kvz : ∀ {u : Value} {m : Nat} {x : Nat → Nat}, OwnZ w B u m x → OwnZ w3 B u m x := fun hu => ownZ_keep hu (fun q e => k3 q (ownZ_lt hu q e) (fun e2 => ownZ_row_ne hu h.row (by decide) (e2 ▸ e)) (ownZ_rows_ne hu h.lst (by decide) q e))
  have krow : ∀ {g m : Nat} {f : Nat → Value}, w.rowIs g 5 m f → w3.rowIs g 5 m f := fun hr => hr.of_block (k3 _ hr.lt (fun e2 => rowIs_apart hr h.row (by decide) e2) (rows_apart h.lst hr (by decide)))
  have r3b : w3.rowIs xb 61 11 (shB sz (.slice ka (N + 1) kc) ov) := r3.congr (fun i hi => by
    unfold shB
    by_cases e : i = 3
    · subst e; rfl
    · rw [if_neg e, if_neg e, if_neg e])
  have ol3 : w3.ownsRow B 53 1 ov N ((List.range N).map (sl A' ln C')) := owns_keep h.olst (fun q e => k3 q (h.olst.lt q e).2 (fun e2 => rows_apart h.olst h.row (by decide) (e2 ▸ e)) (fun e2 => h.ko q e2 e))
  have fam3 : ∀ i, i < N → OwnZ w3 B (sl A ln C i) (ln i) (X i) := fun i hi => kvz (h.fam.own i hi)
  have was3 : ∀ i, i < N → ∃ g, A' i = some ⟨g, 0, none⟩ ∧ B ≤ g ∧ w3.rowIs g 5 (ln i) (fun j => .int .u8 (X i j : Nat)) := fun i hi => by
    obtain ⟨g, e1, hg, hr⟩ := h.was i hi
    exact ⟨g, e1, hg, krow hr⟩
  have ho3 := kvz ho
  have hB3 : B ≤ w3.heap.size := Nat.le_trans hB m3.size
  refine ⟨r3b.cell (i := 4) (by decide), fun W hW => ?_⟩
  have hbyt : Byt W a n y := by
    obtain ⟨a', c', e, hb, _⟩ := ownZ_byt' ho3
    injection e with e1
    rw [e1]
    exact hb.on hW
  refine (copy_any a n c y W (by omega) hbyt).mono fun e w4 ⟨he, hs4, _, hr4⟩ => ?_
  have hb4 : Below W.heap.size W w4 := since_below hs4
  have hb34 : Below w3.heap.size w3 w4 := hW.trans (hb4.mono hW.size)
  have z34 := hW.size
  have z4 := hb4.size
  have r4 : w4.rowIs xb 61 11 (shB sz (.slice ka (N + 1) kc) ov) := r3b.of_block (hb34.block xb r3b.lt)
  have ol4 : w4.ownsRow B 53 1 ov N ((List.range N).map (sl A' ln C')) := owns_keep ol3 (fun q e => hb34.block q (ol3.lt q e).2)
  have l4 : w4.ownsRow B 53 1 (.slice ka (N + 1) kc) (N + 1) ((List.range N).map (sl A ln C) ++ [.slice a n c]) := owns_keep l3 (fun q e => hb34.block q (l3.lt q e).2)
  refine ⟨W.heap.size, he, r4.cell (i := 4) (by decide), ?_⟩
  obtain ⟨oa, oc, w5, hrun5, hr5, hall5⟩ := app_cell (i := 4) r4 (by decide) ol4 (some ⟨W.heap.size, 0, none⟩) n n (by omega) (by omega)
  refine ⟨oa, oc, w5, hrun5, hr5.cell (i := 4) (by decide), hr5.frozen 4, fun w6 e6 => ?_⟩
  obtain ⟨r6, l6, m6⟩ := hall5 w6 e6
  have k6 : ∀ q, q < w4.heap.size → q ≠ xb → ov.ownBlock ≠ some q → w6.heap[q]? = w4.heap[q]? := fun q hq h1 h2 => m6.block q hq (fun e => e.elim h1 h2)
  have kvz6 : ∀ {u : Value} {m : Nat} {x : Nat → Nat}, OwnZ w3 B u m x → OwnZ w6 B u m x := fun hu => ownZ_keep hu (fun q e => by
    have h4 := hb34.block q (ownZ_lt hu q e)
    have hu4 := ownZ_keep hu (fun q e => hb34.block q (ownZ_lt hu q e))
    exact (k6 q (ownZ_lt hu4 q e) (fun e2 => ownZ_row_ne hu4 r4 (by decide) (e2 ▸ e)) (ownZ_rows_ne hu4 ol4 (by decide) q e)).trans h4)
  have krow6 : ∀ {g m : Nat} {f : Nat → Value}, w4.rowIs g 5 m f → w6.rowIs g 5 m f := fun hr => hr.of_block (k6 _ hr.lt (fun e2 => rowIs_apart hr r4 (by decide) e2) (rows_apart ol4 hr (by decide)))
  have hkvn : ∀ q, (Value.slice ka (N + 1) kc).ownBlock = some q → kv.ownBlock = some q ∨ w.heap.size ≤ q := fun q e => by
    rcases m3.foot q (.inr e) with (e2 | e2) | e2
    · exact absurd e2 (fun e3 => rows_apart l3 r3 (by decide) (e3 ▸ e))
    · exact .inl e2
    · exact .inr e2
  have hovn : ∀ q, (Value.slice oa (N + 1) oc).ownBlock = some q → ov.ownBlock = some q ∨ w4.heap.size ≤ q := fun q e => by
    rcases m6.foot q (.inr e) with (e2 | e2) | e2
    · exact absurd e2 (fun e3 => rows_apart l6 r6 (by decide) (e3 ▸ e))
    · exact .inl e2
    · exact .inr e2
  have hkv6 : ∀ q, (Value.slice ka (N + 1) kc).ownBlock = some q → (Value.slice oa (N + 1) oc).ownBlock ≠ some q := fun q e e2 => by
    rcases hovn q e2 with e3 | e3
    · rcases hkvn q e with e4 | e4
      · exact h.ko q e4 e3
      · have := (h.olst.lt q e3).2; omega
    · have := (l4.lt q e).2; omega
  have hwz := m3.size
  refine ⟨⟨r6.congr (fun i hi => ?_), ?_, ?_, ⟨fun i hi => ?_, fun i j x x' hi hj hne hx hx' => ?_⟩, fun i hi => ?_, hkv6, h.lb, fun i hi => ?_, hcnt, by omega⟩, ?_⟩
  · unfold shB
    by_cases e : i = 4
    · subst e; rfl
    · rw [if_neg e, if_neg e, if_neg e]
  · have e : (List.range (N + 1)).map (sl (put A N a) (put ln N n) (put C N c)) = (List.range N).map (sl A ln C) ++ [.slice a n c] := by
      rw [range_map_succ]
      congr 1
      · apply List.map_congr_left
        intro j hj
        have hj := List.mem_range.1 hj
        unfold sl
        rw [put_ne _ _ _ (by omega), put_ne _ _ _ (by omega), put_ne _ _ _ (by omega)]
      · unfold sl
        rw [put_at, put_at, put_at]
    rw [e]
    refine owns_keep l4 (fun q e => k6 q (l4.lt q e).2 (fun e2 => rows_apart l4 r4 (by decide) (e2 ▸ e)) (fun e2 => ?_))
    rcases hkvn q e with e4 | e4
    · exact h.ko q e4 e2
    · have := (h.olst.lt q e2).2; omega
  · have e : (List.range (N + 1)).map (sl (put A' N (some ⟨W.heap.size, 0, none⟩)) (put ln N n) (put C' N n)) = (List.range N).map (sl A' ln C') ++ [.slice (some ⟨W.heap.size, 0, none⟩) n n] := by
      rw [range_map_succ]
      congr 1
      · apply List.map_congr_left
        intro j hj
        have hj := List.mem_range.1 hj
        unfold sl
        rw [put_ne _ _ _ (by omega), put_ne _ _ _ (by omega), put_ne _ _ _ (by omega)]
      · unfold sl
        rw [put_at, put_at, put_at]
    rw [e]
    exact l6
  · by_cases e : i = N
    · subst e
      unfold sl
      rw [put_at, put_at, put_at, put_at]
      exact kvz6 ho3
    · have := kvz6 (fam3 i (by omega))
      unfold sl at this ⊢
      rw [put_ne _ _ _ e, put_ne _ _ _ e, put_ne _ _ _ e, put_ne _ _ _ e]
      exact this
  · by_cases e : i = N
    · subst e
      rw [put_at] at hx
      rw [put_ne _ _ _ (Ne.symm hne)] at hx'
      exact fun e2 => hfree x hx (.inr (.inr (.inr (.inl ⟨j, x', by omega, hx', e2.symm⟩))))
    · rw [put_ne _ _ _ e] at hx
      by_cases e2 : j = N
      · subst e2
        rw [put_at] at hx'
        exact fun e2 => hfree x' hx' (.inr (.inr (.inr (.inl ⟨i, x, by omega, hx, e2⟩))))
      · rw [put_ne _ _ _ e2] at hx'
        exact h.fam.dis i j x x' (by omega) (by omega) hne hx hx'
  · by_cases e : i = N
    · subst e
      rw [put_at, put_at, put_at]
      exact ⟨W.heap.size, rfl, by omega, krow6 hr4⟩
    · obtain ⟨g, e1, hg, hr⟩ := was3 i (by omega)
      rw [put_ne _ _ _ e, put_ne _ _ _ e, put_ne _ _ _ e]
      exact ⟨g, e1, hg, krow6 (hr.of_block (hb34.block g hr.lt))⟩
  · by_cases e : i = N
    · subst e; rw [put_at]; exact hn
    · rw [put_ne _ _ _ e]; exact h.ll i (by omega)
  · have z6 := m6.size
    refine ⟨m6.os.trans (hb34.os.trans m3.os), m6.tape.trans (hb34.tape.trans m3.tape), m6.output.trans (hb34.output.trans m3.output), by omega, fun q hq hnn => ?_, fun q hf => ?_⟩
    · have q1 := k6 q (by omega) (fun e => hnn (.inl (.inl e))) (fun e => hnn (.inl (.inr (.inr (.inl e)))))
      exact q1.trans ((hb34.block q (by omega)).trans (k3 q hq (fun e => hnn (.inl (.inl e))) (fun e => hnn (.inl (.inr (.inl e))))))
    · rcases hf with e | e | e | ⟨i, x, hi, hx, e⟩ | ⟨i, x, hi, hx, e⟩
      · exact .inl (.inl (.inl e))
      · rcases hkvn q e with e2 | e2
        · exact .inl (.inl (.inr (.inl e2)))
        · exact .inr e2
      · rcases hovn q e with e2 | e2
        · exact .inl (.inl (.inr (.inr (.inl e2))))
        · exact .inr (by omega)
      · by_cases e2 : i = N
        · subst e2
          rw [put_at] at hx
          exact .inl (.inr ⟨x, hx, e⟩)
        · rw [put_ne _ _ _ e2] at hx
          exact .inl (.inl (.inr (.inr (.inr (.inl ⟨i, x, by omega, hx, e⟩)))))
      · by_cases e2 : i = N
        · subst e2
          rw [put_at] at hx
          have : W.heap.size = q := by rw [← e, ← Option.some.inj hx]
          exact .inr (by omega)
        · rw [put_ne _ _ _ e2] at hx
          exact .inl (.inl (.inr (.inr (.inr (.inr ⟨i, x, by omega, hx, e⟩)))))
end Go.Proofs.Ytgpmoakfbhcidaa
