/- The Place; the other nets. -/
import Derived.Test.YtgpmoakfbhcidaaYA7
import Derived.Test.YtgpmoakfbhcidaaX12M
namespace Go.Proofs.Ytgpmoakfbhcidaa
open Go.RowKit
set_option maxRecDepth 100000
set_option maxRecDepth 100000

/-- The Place; G: what of memory is its. -/
def PlcIs (w : World) (B pb : Nat) (G : Nat → Prop) : Prop := ∃ v n x, w.rowIs pb 64 1 (fun _ => v) ∧ Own w B v n x ∧ B ≤ pb ∧ ∀ q, G q ↔ (q = pb ∨ v.ownBlock = some q)
theorem own_keepB {w w' : World} {B n : Nat} {v : Value} {x : Nat → Nat} (h : Own w B v n x) (hk : ∀ k, v.ownBlock = some k → w'.heap[k]? = w.heap[k]?) : Own w' B v n x := owns_keep h hk
theorem PlcIs.later {w w' : World} {B pb : Nat} {G : Nat → Prop} (h : PlcIs w B pb G) (hb : ∀ q, G q → w'.heap[q]? = w.heap[q]?) : PlcIs w' B pb G := by
  obtain ⟨v, n, x, h1, h2, h3, h4⟩ := h
  exact ⟨v, n, x, h1.of_block (hb pb ((h4 pb).2 (.inl rfl))), own_keepB h2 (fun k e => hb k ((h4 k).2 (.inr e))), h3, h4⟩
theorem PlcIs.ge {w : World} {B pb : Nat} {G : Nat → Prop} (h : PlcIs w B pb G) : ∀ q, G q → B ≤ q ∧ q < w.heap.size := fun q hq => by
  obtain ⟨v, n, x, h1, h2, h3, h4⟩ := h
  rcases (h4 q).1 hq with e | e
  · rw [e]; exact ⟨h3, h1.lt⟩
  · exact World.ownsRow.lt h2 q e
theorem app_at (w : World) (B : Nat) (v : Value) (n : Nat) (x : Nat → Nat) (hown : Own w B v n x) (a : Option Addr) (m c : Nat) (y : Nat → Nat) (hb : Byt w a m y) (ha : a = none → m = 0 ∧ c = 0) (hmax : n + m ≤ 140737488355328) (hB : B ≤ w.heap.size) :
    ∃ v' w', (Builtin.append_ #[53, 53] 53 #[v, .slice a m c]).run Try.prog w = .ok v' w' ∧ Own w' B v' (n + m) (cat x n y) ∧ w.grownBy w' v.ownBlock ∧ (v'.ownBlock = v.ownBlock ∨ v'.ownBlock = some w.heap.size) := by
  obtain ⟨i0, hi, hz0, hz1, hz2⟩ := info_parts Try.info5
  cases a with
  | none =>
    obtain ⟨rfl, rfl⟩ := ha rfl
    refine ⟨v, w, run_append_owned_none w B 53 53 5 i0 1 Try.underlying53 hi v n _ hown, ?_, ⟨rfl, rfl, rfl, Nat.le_refl _, fun _ _ _ => rfl⟩, Or.inl rfl⟩
    have e : cellsOf (n + 0) (cat x n y) = cellsOf n x := by rw [← cellsOf_cat]; simp [cellsOf]
    show w.ownsRow B 5 1 v (n + 0) (cellsOf (n + 0) (cat x n y))
    rw [e]; exact hown
  | some ad =>
    obtain ⟨v', w', hr, h1, h2, _, h5⟩ := run_append_own_at (P := Try.prog) w B 53 53 5 i0 (.int .u8 0) 1 1 Try.underlying53 hi hz0 hz1 hz2 rfl (by decide) v n _ hown ad m c (cellsOf m y) (by rw [length_cellsOf, Nat.mul_one])
      (fun j u hu => by
        have hj : j < m := by have := (List.getElem?_eq_some_iff.1 hu).1; rwa [length_cellsOf] at this
        rw [get_cellsOf hj] at hu
        obtain ⟨b, off, e, hc⟩ := hb j hj
        obtain rfl : ad = ⟨b, off, none⟩ := by simpa using e
        rw [show (⟨b, off, none⟩ : Addr).add j = ⟨b, off + j, none⟩ by simp [Addr.add], hc]; exact hu)
      (one_cellsOf m y) (by unfold maxLen; omega) (by omega) hB
    exact ⟨v', w', hr, by rw [cellsOf_cat] at h1; exact h1, h2, h5⟩
theorem own_none {w : World} {B n cap : Nat} {a : Option Addr} {x : Nat → Nat} (h : Own w B (.slice a n cap) n x) : Own w B (.slice a 0 cap) 0 x := by
  rcases h.2 with ⟨e, h0⟩ | ⟨g, cap', cur, e, hb, hq, hc, hcm, hcs, htake⟩
  · cases e
    exact ⟨rfl, .inl ⟨rfl, rfl⟩⟩
  · cases e
    exact ⟨rfl, .inr ⟨g, cap, cur, rfl, hb, hq, Nat.zero_le _, hcm, hcs, by simp [cellsOf]⟩⟩
set_option maxHeartbeats 1600000 in
theorem PlcIs.bytes {w : World} {B pb : Nat} {G : Nat → Prop} (h : PlcIs w B pb G) (hB : B ≤ w.heap.size) (a : Option Addr) (m c : Nat) (y : Nat → Nat) (hb : Byt w a m y) (ha : a = none → m = 0 ∧ c = 0) (hmax : m ≤ 140737488351232) :
    Calls Try.prog 13 #[.pointer (some ⟨pb, 0, none⟩), .slice a m c] w fun e w' => ∃ a' c', e = .returned (.slice a' m c') ∧ Byt w' a' m y ∧ (a' = none → m = 0) ∧ ∃ G', PlcIs w' B pb G' ∧ Mv G G' w w' := by
  obtain ⟨v, n, x, h1, h2, h3, h4⟩ := h
  obtain ⟨va, vc, rfl⟩ : ∃ va vc, v = .slice va n vc := by
    rcases h2.2 with ⟨e, h0⟩ | ⟨g, cap, cur, e, _⟩
    · exact ⟨none, 0, by rw [h0]; exact e⟩
    · exact ⟨_, cap, e⟩
  have c0 : w.cell? ⟨pb, 0, none⟩ = some (.slice va n vc) := h1.cell (i := 0) (by decide)
  have hpn := rows_apart h2 h1 (by decide)
  obtain ⟨v', w1, hrun, ho, hg, hl⟩ := app_at w B (.slice va 0 vc) 0 x (own_none h2) a m c y hb ha (by omega) hB
  have h0 : ∀ q, (Value.slice va 0 vc).ownBlock = some q ↔ (Value.slice va n vc).ownBlock = some q := fun q => by cases va <;> simp [Value.ownBlock]
  have hr1 : w1.rowIs pb 64 1 (fun _ => .slice va n vc) := h1.of_block (hg.block pb h1.lt (fun e => hpn ((h0 _).1 e.symm)))
  have ho : Own w1 B v' m y := by
    rw [Nat.zero_add] at ho
    have e : cellsOf m (cat x 0 y) = cellsOf m y := List.map_congr_left (fun j _ => by unfold cat; rw [if_neg (by omega), Nat.sub_zero])
    unfold Own at ho ⊢
    rwa [← e]
  obtain ⟨va', vc', rfl⟩ : ∃ va vc, v' = .slice va m vc := by
    rcases ho.2 with ⟨e, h0⟩ | ⟨g, cap, cur, e, _⟩
    · exact ⟨none, 0, by rw [h0]; exact e⟩
    · exact ⟨_, cap, e⟩
  have c1 : w1.cell? ⟨pb, 0, none⟩ = some (.slice va n vc) := hr1.cell (i := 0) (by decide)
  have f1 := hr1.frozen 0
  obtain ⟨W2, HW2⟩ : ∃ W, Hid (w1.setCell ⟨pb, 0, none⟩ (.slice va' m vc') = W) := ⟨_, rfl⟩
  have hr2 : W2.rowIs pb 64 1 (fun _ => .slice va' m vc') := by
    rw [← HW2.out]
    exact (hr1.set 0 _).congr (fun i hi => by
      have : i = 0 := by omega
      rw [if_pos this])
  have hset : ∀ b, b ≠ pb → W2.heap[b]? = w1.heap[b]? := fun b hb => by rw [← HW2.out]; exact Below.heap_setCell _ _ _ _ hb
  have z2 : W2.heap.size = w1.heap.size := by rw [← HW2.out]; simp [World.setCell]
  have hpn' := rows_apart ho hr1 (by decide)
  have ho2 : Own W2 B (.slice va' m vc') m y := own_keepB ho (fun k e => hset k (fun e2 => hpn' (e2 ▸ e)))
  have c2 : W2.cell? ⟨pb, 0, none⟩ = some (.slice va' m vc') := hr2.cell (i := 0) (by decide)
  have HE : Hid (Byt W2 va' m y ∧ (va' = none → m = 0) ∧ ∃ G', PlcIs W2 B pb G' ∧ Mv G G' w W2) := by
    refine ⟨?_, fun e => ?_, _, ⟨_, m, y, hr2, ho2, h3, fun _ => Iff.rfl⟩, ?_, ?_, ?_, by have := hg.size; omega, fun q hq hn => ?_, fun q hf => ?_⟩
    · intro j hj
      rcases ho2.2 with ⟨_, h0⟩ | ⟨g, cap, cur, e, _⟩
      · omega
      · injection e with e1
        exact ⟨g, 0, e1, by rw [Nat.zero_add]; have := World.ownsRow.cellAt (by rw [e1] at ho2; exact ho2) j (by omega); rw [this, get_cellsOf hj]⟩
    · subst e
      rcases ho2.2 with ⟨_, h0⟩ | ⟨g, cap, cur, e, _⟩
      · exact h0
      · cases e
    · rw [← HW2.out]; exact hg.os
    · rw [← HW2.out]; exact hg.tape
    · rw [← HW2.out]; exact hg.output
    · refine (hset q (fun e => hn ((h4 q).2 (.inl e)))).trans (hg.block q hq (fun e => hn ((h4 q).2 (.inr ((h0 q).1 e.symm)))))
    · rcases hf with e | e
      · exact .inl ((h4 q).2 (.inl e))
      · rcases hl with e2 | e2
        · exact .inl ((h4 q).2 (.inr ((h0 q).1 (e2 ▸ e))))
        · rw [e2] at e; exact .inr (by have := Option.some.inj e; omega)
  have HR := hide hrun
  have hvc : (0 : Int) ≤ (vc : Int) := by omega
  clear hrun ho ho2 hg hl hr1 hr2 hset h1 h2 h4 hb hpn hpn' h0 z2
  go_enter Try.func13, Try.ntmps13
  go_upto_region 2 with (at_builtin; refine wpList_append_eq rfl _ _ 53 rfl _ _ _ (by rfl) (by rfl) (unhide HR) ?_)
  rw [HW2.out]
  go_wp2_with fail
  go_ret
  exact ⟨va', vc', rfl, HE.out⟩

/-- What the other net of number i holds. -/
def oth (i j : Nat) : Nat := if j = 0 then i else 111
/-- The other nets, those from lo on; G: what of memory is theirs. -/
def OtIs (w : World) (B : Nat) (ov : Value) (lo m : Nat) (G : Nat → Prop) : Prop := ∃ (nb : Nat → Nat) (mv : Nat → Value), w.ownsRow B 45 1 ov m ((List.range m).map (fun i => .pointer (some ⟨nb i, 0, none⟩))) ∧ (∀ i, lo ≤ i → i < m → NetIs w B (nb i) (mv i) 1 [⟨(i : Int), strOf 2 (oth i)⟩] 0) ∧ (∀ i j q, lo ≤ i → i < m → lo ≤ j → j < m → i ≠ j → NFt (nb i) (mv i) q → ¬ NFt (nb j) (mv j) q) ∧ ∀ q, G q ↔ (ov.ownBlock = some q ∨ ∃ i, lo ≤ i ∧ i < m ∧ NFt (nb i) (mv i) q)
section
variable {w w' : World} {B lo m : Nat} {ov : Value} {G : Nat → Prop}
theorem OtIs.later (h : OtIs w B ov lo m G) (hb : ∀ q, G q → w'.heap[q]? = w.heap[q]?) : OtIs w' B ov lo m G := by
  obtain ⟨nb, mv, h1, h2, h3, h4⟩ := h
  exact ⟨nb, mv, owns_keep h1 (fun k e => hb k ((h4 k).2 (.inl e))), fun i hi hm => (h2 i hi hm).later (fun k hk => hb k ((h4 k).2 (.inr ⟨i, hi, hm, hk⟩))), h3, h4⟩
theorem OtIs.ge (h : OtIs w B ov lo m G) : ∀ q, G q → B ≤ q ∧ q < w.heap.size := fun q hq => by
  obtain ⟨nb, mv, h1, h2, h3, h4⟩ := h
  rcases (h4 q).1 hq with e | ⟨i, hi, hm, e⟩
  · exact h1.lt q e
  · exact (h2 i hi hm).ge q e
theorem OtIs.nil (w : World) (B : Nat) : OtIs w B (.slice none 0 0) 0 0 (fun _ => False) := ⟨fun _ => 0, fun _ => .slice none 0 0, World.ownsRow_nil _ _ _ _, fun i _ hm => by omega, fun i j q _ hm => by omega, fun q => ⟨fun h => h.elim, fun h => by
  rcases h with e | ⟨i, _, hm, _⟩
  · simp [Value.ownBlock] at e
  · omega⟩⟩
theorem infoNP : (Try.prog.info? 45).map (fun i => (i.zero, i.size, i.bytes)) = some (some (.pointer none), 1, 8) := by kernel_rfl
/-- One more. -/
theorem OtIs.push (h : OtIs w B ov 0 m G) (hB : B ≤ w.heap.size) (hm : m ≤ 1000) (b : Nat) (bv : Value) (hN : NetIs w B b bv 1 [⟨(m : Int), strOf 2 (oth m)⟩] 0) (hf : ∀ q, NFt b bv q → ¬ G q) :
    ∃ oa oc w2, (Builtin.append_ #[65, 65] 65 #[ov, .slice (some ⟨w.heap.size, 0, none⟩) 1 1]).run Try.prog (w.alloc (.cells #[.pointer (some ⟨b, 0, none⟩)] 45)) = .ok (.slice oa (m + 1) oc) w2 ∧ ∃ G', OtIs w2 B (.slice oa (m + 1) oc) 0 (m + 1) G' ∧ Mv (fun q => G q ∨ NFt b bv q) G' w w2 := by
  obtain ⟨nb, mv, h1, h2, h3, h4⟩ := h
  have hbA : Below w.heap.size w (w.alloc (.cells #[.pointer (some ⟨b, 0, none⟩)] 45)) := (Below.refl _ _).alloc (Nat.le_refl _) _
  have zA : (w.alloc (.cells #[.pointer (some ⟨b, 0, none⟩)] 45)).heap.size = w.heap.size + 1 := by simp
  obtain ⟨v', w2, hrun, ho, hg, hl⟩ := app_one Try.underlying65 infoNP rfl (by decide) _ B ov m _ (h1.alloc (.cells #[.pointer (some ⟨b, 0, none⟩)] 45)) w.heap.size (.pointer (some ⟨b, 0, none⟩)) (by simp) rfl (by omega) (by omega)
  generalize w.alloc (.cells #[.pointer (some ⟨b, 0, none⟩)] 45) = wa at *
  obtain ⟨oa, oc, rfl⟩ : ∃ za zc, v' = .slice za (m + 1) zc := by
    rcases ho.2 with ⟨_, h0⟩ | ⟨g, cap, cur, e, _⟩
    · omega
    · exact ⟨_, cap, e⟩
  have zg := hg.size
  have keep : ∀ q, q < w.heap.size → ov.ownBlock ≠ some q → w2.heap[q]? = w.heap[q]? := fun q hq hn => (hg.block q (by omega) (fun e => hn e.symm)).trans (hbA.block q hq)
  have nk : ∀ {x : Nat} {xv : Value} {r l : Nat} {ms : List Ms}, NetIs w B x xv r ms l → NetIs w2 B x xv r ms l := fun hx => hx.later (fun q hq => keep q (hx.ge q hq).2 (fun e => by
    rcases hq with e2 | e2
    · exact rows_apart h1 hx.row (by decide) (e2 ▸ e)
    · exact rows_apart2 h1 hx.own (by decide) q e e2))
  refine ⟨oa, oc, w2, hrun, _, ⟨put nb m b, put mv m bv, ?_, fun i _ hi => ?_, fun i j q _ hi _ hj hne hq hq' => ?_, fun _ => Iff.rfl⟩, hg.os.trans hbA.os, hg.tape.trans hbA.tape, hg.output.trans hbA.output, by omega, fun q hq hn => keep q hq (fun e => hn (.inl ((h4 q).2 (.inl e)))), fun q hq => ?_⟩
  · have e : (List.range (m + 1)).map (fun i => Value.pointer (some ⟨put nb m b i, 0, none⟩)) = (List.range m).map (fun i => .pointer (some ⟨nb i, 0, none⟩)) ++ [.pointer (some ⟨b, 0, none⟩)] := by
      rw [range_map_succ]
      congr 1
      · apply List.map_congr_left
        intro j hj
        have hj := List.mem_range.1 hj
        rw [put_ne _ _ _ (by omega)]
      · rw [put_at]
    rw [e]
    exact ho
  · by_cases e : i = m
    · subst e
      rw [put_at, put_at]
      exact nk hN
    · rw [put_ne _ _ _ e, put_ne _ _ _ e]
      exact nk (h2 i (Nat.zero_le _) (by omega))
  · by_cases e : i = m
    · subst e
      rw [put_at, put_at] at hq
      rw [put_ne _ _ _ (Ne.symm hne), put_ne _ _ _ (Ne.symm hne)] at hq'
      exact hf q hq ((h4 q).2 (.inr ⟨j, Nat.zero_le _, by omega, hq'⟩))
    · rw [put_ne _ _ _ e, put_ne _ _ _ e] at hq
      by_cases e2 : j = m
      · subst e2
        rw [put_at, put_at] at hq'
        exact hf q hq' ((h4 q).2 (.inr ⟨i, Nat.zero_le _, by omega, hq⟩))
      · rw [put_ne _ _ _ e2, put_ne _ _ _ e2] at hq'
        exact h3 i j q (Nat.zero_le _) (by omega) (Nat.zero_le _) (by omega) hne hq hq'
  · rcases hq with e | ⟨i, _, hi, e⟩
    · rcases hl with e2 | e2
      · exact .inl (.inl ((h4 q).2 (.inl (e2 ▸ e))))
      · rw [e2] at e; exact .inr (by have := Option.some.inj e; omega)
    · by_cases e2 : i = m
      · subst e2
        rw [put_at, put_at] at e
        exact .inl (.inr e)
      · rw [put_ne _ _ _ e2, put_ne _ _ _ e2] at e
        exact .inl (.inl ((h4 q).2 (.inr ⟨i, Nat.zero_le _, by omega, e⟩)))
/-- The first of them is taken. -/
theorem OtIs.take (h : OtIs w B ov lo m G) (hlo : lo < m) (hm : m ≤ 200) : ∃ (b : Nat), (∃ oa oc, ov = .slice (some ⟨oa, 0, none⟩) m oc ∧ w.cell? ⟨oa, lo, none⟩ = some (.pointer (some ⟨b, 0, none⟩))) ∧
    Calls Try.prog 20 #[.pointer (some ⟨b, 0, none⟩), .int .i64 0] w fun e w' => ∃ g c, e = .returned (.tuple #[.agg #[.int .i64 (lo : Nat), .slice (some ⟨g, 0, none⟩) 2 c], .bool true]) ∧ Byt w' (some ⟨g, 0, none⟩) 2 (oth lo) ∧ ∃ G', OtIs w' B ov (lo + 1) m G' ∧ Mv G G' w w' := by
  obtain ⟨nb, mv, h1, h2, h3, h4⟩ := h
  obtain ⟨oa, oc, e, hc⟩ := owns_at_b h1 (by omega)
  have hN := h2 lo (Nat.le_refl _) hlo
  refine ⟨nb lo, ⟨oa, oc, e, hc lo hlo⟩, ?_⟩
  have hs2 : (strOf 2 (oth lo)).size = 2 := strOf_size _ _
  have ht := take_some hN 0 (lo : Int) (strOf 2 (oth lo)) rfl
  rw [hs2] at ht
  refine ht.mono fun e w' ⟨g, c, he, hF, _, mv', hN', hM⟩ => ⟨g, c, he, ?_, _, ⟨nb, mv, ?_, fun i hi hm => ?_, fun i j q hi hm hj hm' => h3 i j q (by omega) hm (by omega) hm', fun _ => Iff.rfl⟩, hM.os, hM.tape, hM.output, hM.size, fun q hq hn => hM.block q hq (fun e => hn ((h4 q).2 (.inr ⟨lo, Nat.le_refl _, hlo, e⟩))), fun q hq => ?_⟩
  · intro j hj
    have := hF.byt j (by rw [hs2]; exact hj)
    rw [bx_strOf (fun j _ => by unfold oth; split <;> omega) hj] at this
    exact this
  · exact owns_keep h1 (fun k e => hM.block k (h1.lt k e).2 (fun hf => by
      rcases hf with e2 | e2
      · exact rows_apart h1 hN.row (by decide) (e2 ▸ e)
      · exact rows_apart2 h1 hN.own (by decide) k e e2))
  · exact (h2 i (by omega) hm).later (fun q hq => hM.block q ((h2 i (by omega) hm).ge q hq).2 (fun e => h3 i lo q (by omega) hm (Nat.le_refl _) hlo (by omega) hq e))
  · rcases hq with e | ⟨i, hi, hm, e⟩
    · exact .inl ((h4 q).2 (.inl e))
    · exact .inl ((h4 q).2 (.inr ⟨i, by omega, hm, e⟩))
end
end Go.Proofs.Ytgpmoakfbhcidaa
