/- The Shelf of lists of bytes: holds, Bytes. -/
import Derived.Test.YtgpmoakfbhcidaaYA3
namespace Go.Proofs.Ytgpmoakfbhcidaa
open Go.RowKit
set_option maxRecDepth 100000
set_option maxRecDepth 100000

/-- The cells of a Shelf of bytes alone. -/
def shB (sz : Nat) (kv ov : Value) (i : Nat) : Value := if i = 0 then .int .i64 (sz : Nat) else if i = 3 then kv else if i = 4 then ov else .slice none 0 0
theorem shelfB_holds (xb : Nat) (sz n : Nat) (kv ov : Value) (w : World) (h : w.rowIs xb 61 11 (shB sz kv ov)) (hs : sz ≤ 1000000000000000000) (hn : n ≤ 281474976710656) :
    Calls Try.prog 45 #[.pointer (some ⟨xb, 0, none⟩), .int .i64 n] w fun e w' => e = .returned (.bool (decide (sz + n + 50 ≤ 4194304))) ∧ w' = w.setCell ⟨xb, 0, none⟩ (.int .i64 (sz + n + 50 : Nat)) := by
  have c0 : w.cell? ⟨xb, 0, none⟩ = some (.int .i64 (sz : Int)) := h.cell (i := 0) (by decide)
  have f0 := h.frozen 0
  have hsz : (sz : Int) ≤ 1000000000000000000 := by omega
  have hnz : (n : Int) ≤ 281474976710656 := by omega
  have hw1 : IntKind.i64.wrap ((sz : Int) + (n : Int)) = (sz : Int) + (n : Int) := by rw [IntKind.wrap_i64]; omega
  have hw2 : IntKind.i64.wrap ((sz : Int) + (n : Int) + 50) = (sz : Int) + (n : Int) + 50 := by rw [IntKind.wrap_i64]; omega
  clear h
  have hd : decide (sz + n + 50 ≤ 4194304) = decide ((sz : Int) + (n : Int) + 50 ≤ 4194304) := decide_eq_decide.2 (by omega)
  rw [hd]
  go_enter Try.func45, Try.ntmps45
  go_wp2_with fail
  go_ret
  exact ⟨rfl, by push_cast; rfl⟩

/-- One list more in a cell of a row. -/
theorem app_cell {w : World} {B xb t m i N : Nat} {f : Nat → Value} {kv : Value} {xs : List Value} (hr : w.rowIs xb t m f) (ht : t ≠ 53) (hl : w.ownsRow B 53 1 kv N xs) (a : Option Addr) (n c : Nat) (hN : N ≤ 100000) (hB : B ≤ w.heap.size) :
    ∃ ka kc w2, (Builtin.append_ #[30, 30] 30 #[kv, .slice (some ⟨w.heap.size, 0, none⟩) 1 1]).run Try.prog (w.alloc (.cells #[.slice a n c] 53)) = .ok (.slice ka (N + 1) kc) w2 ∧ w2.rowIs xb t m f ∧
      (∀ w3, w3 = w2.setCell ⟨xb, i, none⟩ (.slice ka (N + 1) kc) → w3.rowIs xb t m (fun j => if j = i then .slice ka (N + 1) kc else f j) ∧ w3.ownsRow B 53 1 (.slice ka (N + 1) kc) (N + 1) (xs ++ [.slice a n c]) ∧ Mv (fun q => q = xb ∨ kv.ownBlock = some q) (fun q => q = xb ∨ (Value.slice ka (N + 1) kc).ownBlock = some q) w w3) := by
  have hbA : Below w.heap.size w (w.alloc (.cells #[.slice a n c] 53)) := (Below.refl _ _).alloc (Nat.le_refl _) _
  have zA : (w.alloc (.cells #[.slice a n c] 53)).heap.size = w.heap.size + 1 := by simp
  obtain ⟨zv', w2, hrun, ho, hg, hlo⟩ := app_one Try.underlying30 Try.infoB rfl (by decide) _ B kv N _ (hl.alloc (.cells #[.slice a n c] 53)) w.heap.size (.slice a n c) (by simp) rfl (by omega) (by omega)
  generalize w.alloc (.cells #[.slice a n c] 53) = wa at *
  obtain ⟨za, zc, rfl⟩ : ∃ za zc, zv' = .slice za (N + 1) zc := by
    rcases ho.2 with ⟨_, h0⟩ | ⟨g, cap, cur, e, _⟩
    · omega
    · exact ⟨_, cap, e⟩
  have zg := hg.size
  have keep : ∀ q, q < w.heap.size → kv.ownBlock ≠ some q → w2.heap[q]? = w.heap[q]? := fun q hq hn => (hg.block q (by omega) (fun e => hn e.symm)).trans (hbA.block q hq)
  have hr2 : w2.rowIs xb t m f := hr.of_block (keep xb hr.lt (rows_apart hl hr ht))
  refine ⟨za, zc, w2, hrun, hr2, fun w3 e3 => ?_⟩
  have hset : ∀ b, b ≠ xb → w3.heap[b]? = w2.heap[b]? := fun b hb => by rw [e3]; exact Below.heap_setCell _ _ _ _ hb
  have z3 : w3.heap.size = w2.heap.size := by rw [e3]; simp [World.setCell]
  refine ⟨by rw [e3]; exact hr2.set i _, owns_keep ho (fun q eq => hset q (fun e2 => rows_apart ho hr2 ht (e2 ▸ eq))), ?_, ?_, ?_, by omega, fun q hq hn => (hset q (fun e => hn (.inl e))).trans (keep q hq (fun e => hn (.inr e))), fun q hf => ?_⟩
  · rw [e3]; exact hg.os.trans hbA.os
  · rw [e3]; exact hg.tape.trans hbA.tape
  · rw [e3]; exact hg.output.trans hbA.output
  · rcases hf with e | e
    · exact .inl (.inl e)
    · rcases hlo with e2 | e2
      · exact .inl (.inr (e2 ▸ e))
      · rw [e2] at e; exact .inr (by have := Option.some.inj e; omega)

/-- What of memory is the Shelf's. -/
def HFt (xb N : Nat) (kv ov : Value) (A A' : Nat → Option Addr) (q : Nat) : Prop := q = xb ∨ kv.ownBlock = some q ∨ ov.ownBlock = some q ∨ (∃ i a, i < N ∧ A i = some a ∧ a.block = q) ∨ (∃ i a, i < N ∧ A' i = some a ∧ a.block = q)
structure ShB (w : World) (B xb sz N : Nat) (kv ov : Value) (A A' : Nat → Option Addr) (ln C C' : Nat → Nat) (X : Nat → Nat → Nat) : Prop where
  row : w.rowIs xb 61 11 (shB sz kv ov)
  lst : w.ownsRow B 53 1 kv N ((List.range N).map (sl A ln C))
  olst : w.ownsRow B 53 1 ov N ((List.range N).map (sl A' ln C'))
  fam : FZ w B N A ln C X
  was : ∀ i, i < N → ∃ g, A' i = some ⟨g, 0, none⟩ ∧ B ≤ g ∧ w.rowIs g 5 (ln i) (fun j => .int .u8 (X i j : Nat))
  ko : ∀ q, kv.ownBlock = some q → ov.ownBlock ≠ some q
  lb : B ≤ xb
  ll : ∀ i, i < N → ln i ≤ 4194304
  cnt : 50 * N ≤ sz
  hN : N ≤ 83886
section
variable {w w' : World} {B xb sz N : Nat} {kv ov : Value} {A A' : Nat → Option Addr} {ln C C' : Nat → Nat} {X : Nat → Nat → Nat}
theorem ShB.later (h : ShB w B xb sz N kv ov A A' ln C C' X) (hb : ∀ q, HFt xb N kv ov A A' q → w'.heap[q]? = w.heap[q]?) : ShB w' B xb sz N kv ov A A' ln C C' X := by
  refine ⟨h.row.of_block (hb xb (.inl rfl)), owns_keep h.lst (fun q e => hb q (.inr (.inl e))), owns_keep h.olst (fun q e => hb q (.inr (.inr (.inl e)))), h.fam.keep (fun i g hi e => ?_), fun i hi => ?_, h.ko, h.lb, h.ll, h.cnt, h.hN⟩
  · obtain ⟨a, ha, hq⟩ := (sl_block _ _ _ _ _).1 e
    exact hb g (.inr (.inr (.inr (.inl ⟨i, a, hi, ha, hq⟩))))
  · obtain ⟨g, e, hg, hr⟩ := h.was i hi
    exact ⟨g, e, hg, hr.of_block (hb g (.inr (.inr (.inr (.inr ⟨i, _, hi, e, rfl⟩)))))⟩
theorem ShB.ge (h : ShB w B xb sz N kv ov A A' ln C C' X) : ∀ q, HFt xb N kv ov A A' q → B ≤ q ∧ q < w.heap.size := fun q hq => by
  rcases hq with e | e | e | ⟨i, a, hi, ha, e⟩ | ⟨i, a, hi, ha, e⟩
  · rw [e]; exact ⟨h.lb, h.row.lt⟩
  · exact h.lst.lt q e
  · exact h.olst.lt q e
  · have e2 : (sl A ln C i).ownBlock = some q := (sl_block _ _ _ _ _).2 ⟨a, ha, e⟩
    exact ⟨ownZ_block (h.fam.own i hi) q e2, ownZ_lt (h.fam.own i hi) q e2⟩
  · obtain ⟨g, e2, hg, hr⟩ := h.was i hi
    rw [e2] at ha
    rw [← e, ← Option.some.inj ha]
    exact ⟨hg, hr.lt⟩
end
end Go.Proofs.Ytgpmoakfbhcidaa
