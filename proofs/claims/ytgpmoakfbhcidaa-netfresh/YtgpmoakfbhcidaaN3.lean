/- Package net: slices.Delete of one message; Drop. -/
import Derived.Test.YtgpmoakfbhcidaaN2
namespace Go.Proofs.Ytgpmoakfbhcidaa
open Go.RowKit
set_option maxRecDepth 100000
set_option maxRecDepth 100000

theorem setCells_frame (b : Nat) : ∀ (vs : List Value) (o : Nat) (w : World), (w.setCells b o vs).os = w.os ∧ (w.setCells b o vs).tape = w.tape ∧ (w.setCells b o vs).output = w.output ∧ ∀ k, k ≠ b → (w.setCells b o vs).heap[k]? = w.heap[k]?
  | [], _, _ => ⟨rfl, rfl, rfl, fun _ _ => rfl⟩
  | v :: r, o, w => by
    obtain ⟨h1, h2, h3, h4⟩ := setCells_frame b r (o + 1) (w.setCell ⟨b, o, none⟩ v)
    exact ⟨h1, h2, h3, fun k hk => (h4 k hk).trans (Below.heap_setCell _ _ _ _ hk)⟩
theorem zMS : ∀ w, (zeroValue 93).run Try.prog w = .ok (.agg #[.int .i64 0, .string ⟨#[]⟩]) w := fun w => by kernel_rfl
theorem getD_cell (c : Array Value) (n : Nat) (hc : c.size = n) : ∀ i, i < n → c[i]? = some (c[i]?.getD undef) := fun i hi => by
  rw [Array.getElem?_eq_getElem (by omega)]; rfl
/-- A row as a slice of one's own. -/
theorem own_of_row {w : World} {B g n cap size : Nat} {e : TypeId} {f : Nat → Value} {xs : List Value} (h : w.rowIs g e (cap * size) f) (hB : B ≤ g) (hn : n ≤ cap) (hm : cap ≤ maxLen) (hx : xs.length = n * size) (hf : ∀ j, j < n * size → xs[j]? = some (f j)) : w.ownsRow B e size (.slice (some ⟨g, 0, none⟩) n cap) n xs := by
  obtain ⟨c, h1, h2, h3⟩ := h
  have hle : n * size ≤ cap * size := Nat.mul_le_mul_right size hn
  refine ⟨hx, .inr ⟨g, cap, c, rfl, hB, h1, hn, hm, h2, ?_⟩⟩
  apply List.ext_getElem?
  intro j
  by_cases hj : j < n * size
  · rw [List.getElem?_take_of_lt hj, Array.getElem?_toList, h3 j (by omega), hf j hj]
  · rw [List.getElem?_eq_none (by rw [List.length_take]; omega), List.getElem?_eq_none (by omega)]
/-- clear of one message. -/
theorem clear_one {w : World} {g o n c : Nat} {f : Nat → Value} (h : w.rowIs g 93 n f) (ho : o + 2 ≤ n) :
    ∃ w1, (∀ ty, (Builtin.clear_ #[73] ty #[.slice (some ⟨g, o, none⟩) 1 c]).run Try.prog w = .ok (.tuple #[]) w1) ∧ w1.os = w.os ∧ w1.tape = w.tape ∧ w1.output = w.output ∧ w1.heap.size = w.heap.size ∧ (∀ k, k ≠ g → w1.heap[k]? = w.heap[k]?) ∧ ∃ f', w1.rowIs g 93 n f' ∧ ∀ j, j < o → f' j = f j := by
  obtain ⟨cur, h1, h2, h3⟩ := h
  obtain ⟨vs, hvs⟩ : ∃ vs, vs = (Builtin.zeroCells (Value.agg #[.int .i64 0, .string ⟨#[]⟩]).cells 1).toList := ⟨_, rfl⟩
  have hvs2 : vs = [.int .i64 0, .string ⟨#[]⟩] := by
    have hcl : (Value.agg #[.int .i64 0, .string ⟨#[]⟩]).cells = #[.int .i64 0, .string ⟨#[]⟩] := by rfl
    rw [hvs, hcl]
    simp [Builtin.zeroCells, List.range_succ]
  have hst := run_storeCells_at (P := Try.prog) g o 93 vs 0 cur w h1 (by rw [hvs2, h2]; exact ho) (fun v hv => by
    rw [hvs2] at hv
    simp only [List.mem_cons, List.not_mem_nil, or_false] at hv
    rcases hv with e | e
    · rw [e]; rfl
    · rw [e]; rfl)
  refine ⟨w.setRow g (cur.toList.take (o + 0) ++ vs ++ cur.toList.drop (o + 0 + vs.length)).toArray, fun ty => ?_, rfl, rfl, rfl, size_setRow _ _ _, fun k hk => setRow_other w g k _ hk, fun j => ((cur.toList.take (o + 0) ++ vs ++ cur.toList.drop (o + 0 + vs.length)).toArray)[j]?.getD undef, ⟨_, setRow_heap w g cur _ _ _ h1, ?_, getD_cell _ _ ?_⟩, fun j hj => ?_⟩
  · have hst' : (storeCells ⟨g, o, none⟩ (Builtin.zeroCells (Value.agg #[.int .i64 0, .string ⟨#[]⟩]).cells 1).toList 0).run Try.prog w = .ok () (w.setRow g (cur.toList.take (o + 0) ++ vs ++ cur.toList.drop (o + 0 + vs.length)).toArray) := by rw [← hvs]; exact hst
    clear hst hvs2 hvs
    generalize w.setRow g (cur.toList.take (o + 0) ++ vs ++ cur.toList.drop (o + 0 + vs.length)).toArray = W at *
    simp [Builtin.clear_, run_underlying Try.underlying73, hst']
  · rw [hvs2]; simp; omega
  · rw [hvs2]; simp; omega
  · have : (cur.toList.take (o + 0) ++ vs ++ cur.toList.drop (o + 0 + vs.length)).toArray[j]? = cur[j]? := by
      simp only [Nat.add_zero, List.append_assoc, List.getElem?_toArray]
      rw [List.getElem?_append_left (by rw [List.length_take]; simp; omega), List.getElem?_take_of_lt hj]
      simp
    show (_ : Option Value).getD undef = _
    rw [this, h3 j (by omega)]
    rfl

theorem erase_at (ms : List Ms) (i j : Nat) (hi : i < ms.length) : (msCells (ms.eraseIdx i))[j]? = if j < i * 2 then (msCells ms)[j]? else (msCells ms)[j + 2]? := by
  have e : ms.eraseIdx i = ms.take i ++ ms.drop (i + 1) := List.eraseIdx_eq_take_drop_succ ms i
  rw [e, msCells_app, msCells_take, msCells_drop]
  have hl : ((msCells ms).take (i * 2)).length = i * 2 := by rw [List.length_take, msCells_len]; omega
  by_cases hj : j < i * 2
  · rw [if_pos hj, List.getElem?_append_left (by omega), List.getElem?_take_of_lt hj]
  · rw [if_neg hj, List.getElem?_append_right (by omega), hl, List.getElem?_drop]
    congr 1
    omega

set_option maxHeartbeats 3200000 in
theorem del_any {w : World} {B : Nat} {mv : Value} {ms : List Ms} (h : w.ownsRow B 93 2 mv ms.length (msCells ms)) (hn : ms.length ≤ 8192) (i j : Nat) (hi : i < ms.length) (hj : i + 1 = j) :
    Calls Try.prog 53 #[mv, .int .i64 (i : Nat), .int .i64 (j : Nat)] w fun e w' => ∃ a c, e = .returned (.slice a (ms.length - 1) c) ∧ (Value.slice a (ms.length - 1) c).ownBlock = mv.ownBlock ∧ w'.ownsRow B 93 2 (.slice a (ms.length - 1) c) (ms.length - 1) (msCells (ms.eraseIdx i)) ∧ (∀ k, mv.ownBlock ≠ some k → w'.heap[k]? = w.heap[k]?) ∧ w'.heap.size = w.heap.size ∧ w'.os = w.os ∧ w'.tape = w.tape ∧ w'.output = w.output := by
  obtain ⟨i0, hi0, hz0, hz1, hz2⟩ := info_parts infoMS
  rcases h.2 with ⟨_, h0⟩ | ⟨g, cap, cur, e, hB, hq, hc, hm, hcs, ht⟩
  · omega
  subst e
  have hml : maxLen = 9223372036854775807 := rfl
  have hcell := World.ownsRow.cellAt h
  have hrow : w.drew.rowIs g 93 (cap * 2) (fun k => cur[k]?.getD undef) := ⟨cur, hq, hcs, getD_cell _ _ hcs⟩
  have hcur : ∀ k, k < ms.length * 2 → (msCells ms)[k]? = some (cur[k]?.getD undef) := fun k hk => by
    rw [← hcell k (by omega), ← hrow.cell (i := k) (by omega)]
    rfl
  -- the cells that are moved to the left
  obtain ⟨news, hnews⟩ : ∃ news, news = (msCells ms).drop (j * 2) := ⟨_, rfl⟩
  have hlen : news.length = (ms.length - j) * 2 := by rw [hnews, List.length_drop, msCells_len]; omega
  obtain ⟨A, hA, hsrc⟩ : ∃ A : Addr, (if cap = j then some (⟨g, 0, none⟩ : Addr) else some ⟨g, j * 2, none⟩) = some A ∧ Hid (∀ t u, news[t]? = some u → w.drew.cell? (A.add t) = some u) := by
    by_cases hcj : cap = j
    · refine ⟨⟨g, 0, none⟩, by simp [hcj], fun t u hu => ?_⟩
      have h0 : news.length = 0 := by rw [hlen]; omega
      rw [List.length_eq_zero_iff.1 h0] at hu
      simp at hu
    · refine ⟨⟨g, j * 2, none⟩, by simp [hcj], fun t u hu => ?_⟩
      have htl := (List.getElem?_eq_some_iff.1 hu).1
      rw [hnews, List.getElem?_drop] at hu
      rw [Addr.add_lit]
      show w.cell? _ = _
      rw [hcell (j * 2 + t) (by omega)]
      exact hu
  have s1 : Hid (news.length = (ms.length - j) * 2) := hlen
  have s2 : Hid (∀ u ∈ news, u.oneCell' = true) := fun u hu => msCells_one ms u (by rw [hnews] at hu; exact List.mem_of_mem_drop hu)
  have s3 : Hid (∀ t, t < news.length → (w.drew.cell? ⟨g, 0 + i * 2 + t, none⟩).isSome = true ∧ w.drew.frozen? ⟨g, 0 + i * 2 + t, none⟩ = false) := by
    intro t htt
    rw [hlen] at htt
    exact ⟨by rw [hrow.cell (i := 0 + i * 2 + t) (by omega)]; rfl, hrow.frozen _⟩
  obtain ⟨W1, hW1⟩ : ∃ W1, W1 = w.drew.setCells g (0 + i * 2) news := ⟨_, rfl⟩
  have hrow1 := rowIs_setCells news (0 + i * 2) _ _ hrow
  rw [← hW1] at hrow1
  have hs1 : ∀ k, k ≠ g → W1.heap[k]? = w.heap[k]? := fun k hk => by rw [hW1]; exact (setCells_frame g news _ w.drew).2.2.2 k hk
  have hz1' : W1.heap.size = w.heap.size := by rw [hW1, size_setCells]; rfl
  obtain ⟨W2, hcl, o1, o2, o3, hz2', hs2, f', hrow2, hf2⟩ := clear_one (c := cap - (ms.length - 1)) hrow1 (o := (ms.length - 1) * 2) (by omega)
  have hE : W2.ownsRow B 93 2 (.slice (some ⟨g, 0, none⟩) (ms.length - 1) cap) (ms.length - 1) (msCells (ms.eraseIdx i)) := by
    refine own_of_row hrow2 hB (by omega) hm (by rw [msCells_len, List.length_eraseIdx, if_pos hi]) (fun k hk => ?_)
    rw [hf2 k hk, erase_at ms i k hi]
    by_cases hk2 : k < i * 2
    · rw [if_pos hk2, if_neg (by omega)]
      exact hcur k (by omega)
    · rw [if_neg hk2, if_pos (by omega), hnews, List.getD, List.getElem?_drop, show j * 2 + (k - (0 + i * 2)) = k + 2 by omega, hcur (k + 2) (by omega)]
      rfl
  have hW : Hid (w.drew.setCells g (0 + i * 2) news = W1) := hW1.symm
  have HE : Hid ((Value.slice (some ⟨g, 0, none⟩) (ms.length - 1) cap).ownBlock = (Value.slice (some ⟨g, 0, none⟩) ms.length cap).ownBlock ∧ W2.ownsRow B 93 2 (.slice (some ⟨g, 0, none⟩) (ms.length - 1) cap) (ms.length - 1) (msCells (ms.eraseIdx i)) ∧ (∀ k, (Value.slice (some ⟨g, 0, none⟩) ms.length cap).ownBlock ≠ some k → W2.heap[k]? = w.heap[k]?) ∧ W2.heap.size = w.heap.size ∧ W2.os = w.os ∧ W2.tape = w.tape ∧ W2.output = w.output) := by
    refine ⟨rfl, hE, fun k hk => ?_, by omega, ?_, ?_, ?_⟩
    · have : k ≠ g := fun e => hk (by rw [e]; rfl)
      exact (hs2 k this).trans (hs1 k this)
    · rw [o1, hW1]; exact (setCells_frame g news _ w.drew).1
    · rw [o2, hW1]; exact (setCells_frame g news _ w.drew).2.1
    · rw [o3, hW1]; exact (setCells_frame g news _ w.drew).2.2.1
  have hic : i ≤ cap := by omega
  have hjc : j ≤ cap := by omega
  have hij : ((i : Int) == (j : Int)) = false := by simp; omega
  obtain ⟨n1, hn1⟩ : ∃ n1, n1 = ms.length - 1 := ⟨_, rfl⟩
  have e1 : i + (ms.length - j) = n1 := by omega
  have e2 : ms.length - n1 = 1 := by omega
  rw [← hn1] at HE hcl ⊢
  generalize ms.length = n at *
  have z1 : (i : Int) ≤ (j : Int) := by omega
  have z2 : (j : Int) ≤ (n : Int) := by omega
  have z3 : (n : Int) ≤ (cap : Int) := by omega
  have z4 : (n1 : Int) ≤ (n : Int) := by omega
  have hroom : i + (n - j) ≤ cap := by omega
  clear h hq ht hcs hrow hcur hcell hrow1 hs1 hs2 hz1' hz2' hf2 hrow2 hE hnews hlen hW1 o1 o2 o3 hB hm hml hn1
  go_enter Try.func53, Try.ntmps53
  go_wp2_with fail
  go_region_law (refine step_append_room rfl (.tmp 22) (.tmp 25) 73 rfl 93 i0 2 Try.underlying73 hi0 hz1 g 0 i cap (by simp [Act.eval, Act.put]) A (n - j) (cap - j) news (by simp [Act.eval, Act.put]) s1.out hsrc.out s2.out hroom s3.out ?_; rw [hW.out])
  all_goals
    go_wp2
    go_ret
    exact ⟨_, _, rfl, HE.out⟩

section
variable {w w' : World} {B nb : Nat} {mv : Value} {room lost : Nat} {ms : List Ms}
set_option maxHeartbeats 1600000 in
theorem drop_some (h : NetIs w B nb mv room ms lost) (i : Nat) (hi : i < ms.length) :
    Calls Try.prog 30 #[.pointer (some ⟨nb, 0, none⟩), .int .i64 (i : Nat)] w fun e w' => e = .returned (.bool true) ∧ ∃ mv', NetIs w' B nb mv' room (ms.eraseIdx i) lost ∧ Mv (NFt nb mv) (NFt nb mv') w w' := by
  have hrm := h.rm
  have hle := h.le
  have hh := has_any h (i : Int)
  have et : decide ((0 : Int) ≤ (i : Int) ∧ (i : Int) < (ms.length : Int)) = true := by simp; omega
  rw [et] at hh
  have hd := del_any h.own (by omega) i (i + 1) hi rfl
  have c1 := h.c1
  obtain ⟨j, hj, hj2⟩ : ∃ j : Nat, (i : Int) + 1 = (j : Int) ∧ i + 1 = j := ⟨i + 1, by omega, rfl⟩
  rw [hj2] at hd
  have hw : IntKind.i64.wrap (j : Int) = (j : Int) := by rw [IntKind.wrap_i64]; omega
  have HE : Hid (∀ (a : Option Addr) (c : Nat) (w2 : World), (Value.slice a (ms.length - 1) c).ownBlock = mv.ownBlock → w2.ownsRow B 93 2 (.slice a (ms.length - 1) c) (ms.length - 1) (msCells (ms.eraseIdx i)) → (∀ k, mv.ownBlock ≠ some k → w2.heap[k]? = w.heap[k]?) → w2.heap.size = w.heap.size → w2.os = w.os → w2.tape = w.tape → w2.output = w.output →
      w2.cell? ⟨nb, 1, none⟩ = some mv ∧ w2.frozen? ⟨nb, 1, none⟩ = false ∧ ∃ mv', NetIs (w2.setCell ⟨nb, 1, none⟩ (.slice a (ms.length - 1) c)) B nb mv' room (ms.eraseIdx i) lost ∧ Mv (NFt nb mv) (NFt nb mv') w (w2.setCell ⟨nb, 1, none⟩ (.slice a (ms.length - 1) c))) := by
    intro a c w2 hb ho hk hz o1 o2 o3
    have hr2 : w2.rowIs nb 78 3 (netCell room mv lost) := h.row.of_block (hk nb h.nm)
    have hset : ∀ b, b ≠ nb → (w2.setCell ⟨nb, 1, none⟩ (.slice a (ms.length - 1) c)).heap[b]? = w2.heap[b]? := fun b hb => Below.heap_setCell _ _ _ _ hb
    have el : (ms.eraseIdx i).length = ms.length - 1 := by rw [List.length_eraseIdx, if_pos hi]
    refine ⟨hr2.cell (i := 1) (by decide), hr2.frozen 1, .slice a (ms.length - 1) c, ⟨?_, ?_, h.lb, by omega, h.rm⟩, o1, o2, o3, ?_, fun k _ hn => ?_, fun k hf => ?_⟩
    · refine (hr2.set 1 _).congr (fun i hi => ?_)
      match i, hi with
      | 0, _ => rfl
      | 1, _ => rfl
      | 2, _ => rfl
    · rw [el]
      exact rows_keep ho (fun k e => hset k (fun e2 => h.nm (by rw [← hb, ← e2]; exact e)))
    · simp [World.setCell]; omega
    · exact (hset k (fun e => hn (.inl e))).trans (hk k (fun e => hn (.inr e)))
    · rcases hf with e | e
      · exact .inl (.inl e)
      · exact .inl (.inr (by rw [← hb]; exact e))
  generalize ms.length = n at *
  clear h et hi hrm hle hj2
  go_enter Try.func30, Try.ntmps30
  go_wp2_with fail
  refine hh.mono ?_
  rintro e w1 ⟨rfl, e1⟩
  subst e1
  go_wp2_with fail
  refine hd.mono ?_
  rintro e w2 ⟨a, c, rfl, hb, ho, hk, hz, o1, o2, o3⟩
  obtain ⟨q1, q2, q3⟩ := HE.out a c w2 hb ho hk hz o1 o2 o3
  have Q : Hid (∃ mv', NetIs (w2.setCell ⟨nb, 1, none⟩ (.slice a (n - 1) c)) B nb mv' room (ms.eraseIdx i) lost ∧ Mv (NFt nb mv) (NFt nb mv') w1 (w2.setCell ⟨nb, 1, none⟩ (.slice a (n - 1) c))) := q3
  clear hh hd hk ho hb HE q3 o1 o2 o3 hz
  generalize n - 1 = n1 at *
  go_wp2
  go_ret
  exact ⟨rfl, Q.out⟩
theorem drop_none (h : NetIs w B nb mv room ms lost) (i : Int) (hi : ¬ (0 ≤ i ∧ i < ms.length)) :
    Calls Try.prog 30 #[.pointer (some ⟨nb, 0, none⟩), .int .i64 i] w fun e w' => e = .returned (.bool false) ∧ w' = w := by
  have hh := has_any h i
  have et : decide ((0 : Int) ≤ (i : Int) ∧ (i : Int) < (ms.length : Int)) = false := by simp; omega
  rw [et] at hh
  clear h et hi
  go_enter Try.func30, Try.ntmps30
  go_wp2_with fail
  refine hh.mono ?_
  rintro e w1 ⟨rfl, e1⟩
  subst e1
  go_wp2
  go_ret
  exact ⟨rfl, rfl⟩
end
end Go.Proofs.Ytgpmoakfbhcidaa
