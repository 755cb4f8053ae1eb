/- Package disk: the names' maps, and what a loaded disk is in memory. -/
import Derived.Test.YtbebnjeamlmclaaD2
namespace Go.Proofs.Ytbebnjeamlmclaa
open Go.RowKit Go.Maps Go.Sort
set_option maxRecDepth 100000
set_option maxRecDepth 100000

/-- How a pointer to a file reads. -/
def Rf (v : Value) : Option (DataW Nat × List MemPlace) :=
  match v with
  | .pointer none => some (.nil, [])
  | .pointer (some ⟨b, 0, none⟩) => some (.held b, [])
  | _ => none
theorem Rf_inv {v : Value} {b : Nat} {ps : List MemPlace} (h : Rf v = some (.held b, ps)) : v = .pointer (some ⟨b, 0, none⟩) := by
  unfold Rf at h
  split at h
  · simp at h
  · rename_i b'
    simp only [Option.some.injEq, Prod.mk.injEq, DataW.held.injEq] at h
    rw [h.1]
  · cases h
theorem Rf_nil {v : Value} {ps : List MemPlace} (h : Rf v = some (.nil, ps)) : v = .pointer none := by
  unfold Rf at h
  split at h
  · rfl
  · simp at h
  · cases h

theorem strK : Keyed Try.prog 9 := string_keyed Try.underlying9
theorem key_str (s : ByteArray) (hs : s.size ≤ 1048576) : keyOf Try.prog 9 (.string s) = some (.string s.data.toList) := by
  have hm : maxLen = 9223372036854775807 := rfl
  exact Go.WideMaps.keyOf_string_mk Try.underlying9 (by omega)

theorem litS (s : List UInt8) : WideAt.IsKeyLit (.string s) := trivial

/-- The names, one after the other. -/
def nmD (nm : Nat → ByteArray) (fb : Nat → Nat) : Nat → DataW Nat
  | 0 => .map []
  | i + 1 => (nmD nm fb i).put (.string (nm i).data.toList) (.held (fb i))
theorem nmD_tidy (nm : Nat → ByteArray) (fb : Nat → Nat) : ∀ n, Tidy (nmD nm fb n)
  | 0 => tidy_empty
  | n + 1 => (nmD_tidy nm fb n).put (litS _) _
theorem nmD_has (nm : Nat → ByteArray) (fb : Nat → Nat) (s : List UInt8) : ∀ n, has (nmD nm fb n) (.string s) = true ↔ ∃ i, i < n ∧ (nm i).data.toList = s
  | 0 => by simp [nmD, has]
  | n + 1 => by
    show has ((nmD nm fb n).put _ _) _ = true ↔ _
    by_cases e : (nm n).data.toList = s
    · rw [← e, has_put_same (nmD_tidy nm fb n).isMap (litS _)]
      simp only [true_iff]
      exact ⟨n, by omega, rfl⟩
    · rw [has_put_other (by intro h; injection h with h; exact e h.symm), nmD_has nm fb s n]
      constructor
      · rintro ⟨i, hi, h⟩; exact ⟨i, by omega, h⟩
      · rintro ⟨i, hi, h⟩
        refine ⟨i, ?_, h⟩
        rcases Nat.lt_succ_iff_lt_or_eq.1 hi with h1 | h1
        · exact h1
        · rw [h1] at h; exact absurd h e
theorem nmD_at (nm : Nat → ByteArray) (fb : Nat → Nat) (z : DataW Nat) : ∀ n i, (∀ a b, a < n → b < n → (nm a).data.toList = (nm b).data.toList → a = b) → i < n → (nmD nm fb n).atKey (.string (nm i).data.toList) z = .held (fb i)
  | 0, i, _, h => absurd h (Nat.not_lt_zero _)
  | n + 1, i, hd, h => by
    show ((nmD nm fb n).put _ _).atKey _ z = _
    by_cases e : i = n
    · subst e
      exact atKey_put_same (nmD_tidy nm fb i).isMap (litS _) _ _
    · rw [atKey_put_other (by intro h2; injection h2 with h2; exact e (hd i n h (by omega) h2))]
      exact nmD_at nm fb z n i (fun a b ha hb => hd a b (by omega) (by omega)) (by omega)
theorem nmD_size (nm : Nat → ByteArray) (fb : Nat → Nat) : ∀ n, (∀ a b, a < n → b < n → (nm a).data.toList = (nm b).data.toList → a = b) → size (nmD nm fb n) = n
  | 0, _ => rfl
  | n + 1, hd => by
    show size ((nmD nm fb n).put _ _) = _
    rw [size_put (nmD_tidy nm fb n), nmD_size nm fb n (fun a b ha hb => hd a b (by omega) (by omega)), if_neg]
    intro h
    obtain ⟨i, hi, e⟩ := (nmD_has nm fb _ n).1 h
    have := hd i n (by omega) (by omega) e
    omega

/-- The cells of a disk that was just loaded. -/
def dkCell (room : Int) (sb nb : Nat) (i : Nat) : Value := if i = 0 then .int .i64 room else if i = 1 then .map (some sb) else if i = 2 then .map (some nb) else if i = 3 then .slice none 0 0 else if i = 4 then .bool false else .int .i64 0

theorem cells_ne {w : World} {b m i : Nat} {v : Value} {es : Array MapEntry} {clock : Nat} (hc : w.cell? ⟨b, i, none⟩ = some v) (hm : w.heap[m]? = some (.map es clock)) : b ≠ m := by
  rintro rfl
  simp [World.cell?, hm] at hc

set_option maxHeartbeats 1600000 in
theorem lay_any {w : World} {db sb nb n : Nat} {D : DataW Nat} (c1 : w.cell? ⟨db, 1, none⟩ = some (.map (some sb))) (c2 : w.cell? ⟨db, 2, none⟩ = some (.map (some nb))) (h1 : w.ownsMap Try.prog 9 Rf sb n D) (h2 : w.ownsMap Try.prog 9 Rf nb n D) (hne : sb ≠ nb) (hn : n ≤ 1000000) (s : ByteArray) (hs : s.size ≤ 1048576) (f : Nat) :
    Calls Try.prog 38 #[.pointer (some ⟨db, 1, none⟩), .string s, .pointer (some ⟨f, 0, none⟩)] w fun e w' => e = .returned (.tuple #[]) ∧ w'.ownsMap Try.prog 9 Rf sb (n + 1) (D.put (.string s.data.toList) (.held f)) ∧ w'.ownsMap Try.prog 9 Rf nb (n + 1) (D.put (.string s.data.toList) (.held f)) ∧ ∃ w1, w.grownBy w1 (some sb) ∧ w1.grownBy w' (some nb) ∧ ∃ es clock, w1.heap[nb]? = some (.map es clock) := by
  have hml : maxLen = 9223372036854775807 := rfl
  have hk := key_str s hs
  have hv : Rf (.pointer (some ⟨f, 0, none⟩)) = some (.held f, []) := rfl
  have hd : db ≠ sb := by
    obtain ⟨es, clock, hb, _⟩ := h1
    exact cells_ne c1 hb
  have HN : Hid (db ≠ sb ∧ sb ≠ nb) := ⟨hd, hne⟩
  clear hd hne
  go_enter Try.func38, Try.ntmps38
  go_wp2_with (first
    | (at_mapUpdate; refine wpList_mapUpdate_own _ rfl _ _ _ 74 rfl 9 84 strK Try.underlying74 Rf sb n D rfl h1 (by omega) _ _ _ rfl rfl hk _ [] hv ?_
       intro w1 hown1 hg1
       have h2' := h2.kept hg1 (fun e => HN.out.2 (Option.some.inj e).symm)
       have d2 : w1.cell? ⟨db, 2, none⟩ = some (.map (some nb)) := by
         rw [World.cell?_of_block (a := ⟨db, 2, none⟩) (hg1.block db (World.block_lt_of_cell? _ _ c2) (fun e => HN.out.1 (Option.some.inj e)))]; exact c2
       clear h1 h2 c1 c2
       go_frame)
    | (at_mapUpdate; refine wpList_mapUpdate_own _ rfl _ _ _ 74 rfl 9 84 strK Try.underlying74 Rf nb n D rfl h2' (by omega) _ _ _ rfl rfl hk _ [] hv ?_
       intro w2 hown2 hg2
       go_frame)
    | go_in)
  go_end0
  refine ⟨rfl, hown1.kept hg2 (fun e => HN.out.2 (Option.some.inj e)), hown2, w1, hg1, hg2, ?_⟩
  obtain ⟨es, clock, hb, _⟩ := h2'
  exact ⟨es, clock, hb⟩

theorem results_cell_one {fn : Func} {p : Tmp} {ty : TypeId} (h : fn.results = #[.cell p ty]) (tmps : Array Value) (P : Program) (w : World) :
    (results fn tmps).run P w = ((asAddr (tmps.getD p undef)).run P w).andThen fun a w₁ => (loadVar ty a).run P w₁ := by
  simp only [results, h]
  simp [Sem.run_bind, Result.andThen]

set_option maxHeartbeats 1600000 in
theorem newNames_any (w : World) : Calls Try.prog 37 #[] w fun e w' => ∃ sb nb, e = .returned (.agg #[.map (some sb), .map (some nb), .slice none 0 0]) ∧ w'.ownsMap Try.prog 9 Rf sb 0 (.map []) ∧ w'.ownsMap Try.prog 9 Rf nb 0 (.map []) ∧ sb ≠ nb ∧ w.heap.size ≤ sb ∧ w.heap.size ≤ nb ∧ Below w.heap.size w w' := by
  have hmk := fun W => run_makeMap (P := Try.prog) 74 W
  obtain ⟨W1, hW1⟩ : ∃ W1, w.alloc (.cells #[.map none, .map none, .slice none 0 0] 77) = W1 := ⟨_, rfl⟩
  have r1 : W1.rowIs w.heap.size 77 3 (fun i => if i = 2 then .slice none 0 0 else .map none) := by
    rw [← hW1]
    exact World.rowIs_alloc w #[.map none, .map none, .slice none 0 0] _ _ (fun i hi => by
      match i, hi with
      | 0, _ => rfl
      | 1, _ => rfl
      | 2, _ => rfl)
  have z1 : W1.heap.size = w.heap.size + 1 := by rw [← hW1]; simp
  have b1 : Below w.heap.size w W1 := by rw [← hW1]; exact (Below.refl _ _).alloc (Nat.le_refl _) _
  have m1 := World.ownsMap_made W1 Try.prog 9 Rf
  have m2 := World.ownsMap_made (W1.alloc (.map #[] 0)) Try.prog 9 Rf
  have m1' := m1.alloc (.map #[] 0)
  have r3 := (r1.alloc (.map #[] 0)).alloc (.map #[] 0)
  have z2 : (W1.alloc (.map #[] 0)).heap.size = W1.heap.size + 1 := by simp
  have b3 : Below w.heap.size w ((W1.alloc (.map #[] 0)).alloc (.map #[] 0)) := (b1.alloc b1.size _).alloc (by omega) _
  have z2' : (W1.alloc (.map #[] 0)).heap.size = w.heap.size + 1 + 1 := by omega
  rw [z2'] at m2
  rw [z1] at m1'
  have r4 := r3.set 0 (.map (some (w.heap.size + 1)))
  have r5 := r4.set 1 (.map (some (w.heap.size + 1 + 1)))
  have r6 := r5.set 2 (.slice none 0 0)
  have k3 : ((W1.alloc (.map #[] 0)).alloc (.map #[] 0)).heap.size = w.heap.size + 1 + 1 + 1 := by simp [z1]
  obtain ⟨W3, hW3⟩ : ∃ W3, (W1.alloc (.map #[] 0)).alloc (.map #[] 0) = W3 := ⟨_, rfl⟩
  rw [hW3] at m2 m1' r3 r4 r5 r6 b3
  have c0 := r3.cell (i := 0) (by decide)
  have c1 := r4.cell (i := 1) (by decide)
  have c2 := r5.cell (i := 2) (by decide)
  have f0 := r3.frozen 0
  have f1 := r4.frozen 1
  have f2 := r5.frozen 2
  simp only [if_true, if_false, Nat.reduceEqDiff, Nat.succ_ne_zero] at c0 c1 c2
  have set3 : ∀ (b : Nat), b ≠ w.heap.size → (((W3.setCell ⟨w.heap.size, 0, none⟩ (.map (some (w.heap.size + 1)))).setCell ⟨w.heap.size, 1, none⟩ (.map (some (w.heap.size + 1 + 1)))).setCell ⟨w.heap.size, 2, none⟩ (.slice none 0 0)).heap[b]? = W3.heap[b]? := fun b hb =>
    (Below.heap_setCell _ _ _ _ hb).trans ((Below.heap_setCell _ _ _ _ hb).trans (Below.heap_setCell _ _ _ _ hb))
  have fin1 : (((W3.setCell ⟨w.heap.size, 0, none⟩ (.map (some (w.heap.size + 1)))).setCell ⟨w.heap.size, 1, none⟩ (.map (some (w.heap.size + 1 + 1)))).setCell ⟨w.heap.size, 2, none⟩ (.slice none 0 0)).ownsMap Try.prog 9 Rf (w.heap.size + 1) 0 (.map []) := by
    obtain ⟨es, clock, hb, F, hs, hD⟩ := m1'
    exact ⟨es, clock, (set3 _ (by omega)).trans hb, F, hs, hD⟩
  have fin2 : (((W3.setCell ⟨w.heap.size, 0, none⟩ (.map (some (w.heap.size + 1)))).setCell ⟨w.heap.size, 1, none⟩ (.map (some (w.heap.size + 1 + 1)))).setCell ⟨w.heap.size, 2, none⟩ (.slice none 0 0)).ownsMap Try.prog 9 Rf (w.heap.size + 1 + 1) 0 (.map []) := by
    obtain ⟨es, clock, hb, F, hs, hD⟩ := m2
    exact ⟨es, clock, (set3 _ (by omega)).trans hb, F, hs, hD⟩
  have finb : Below w.heap.size w (((W3.setCell ⟨w.heap.size, 0, none⟩ (.map (some (w.heap.size + 1)))).setCell ⟨w.heap.size, 1, none⟩ (.map (some (w.heap.size + 1 + 1)))).setCell ⟨w.heap.size, 2, none⟩ (.slice none 0 0)) :=
    ((b3.setCell (Nat.le_refl _) _).setCell (Nat.le_refl _) _).setCell (Nat.le_refl _) _
  have H6 : Hid _ := r6
  have G1 : Hid _ := fin1
  have G2 : Hid _ := fin2
  have G3 : Hid _ := finb
  clear r1 r3 r4 r5 r6 m1 m1' m2 b1 b3 set3 fin1 fin2 finb z2 z2' k3
  go_enter Try.func37, Try.ntmps37
  go_wp2_with fail
  refine bodyPost_ret_by (v := .agg #[.map (some (w.heap.size + 1)), .map (some (w.heap.size + 1 + 1)), .slice none 0 0]) ?_ rfl ⟨_, _, rfl, G1.out, G2.out, by omega, by omega, by omega, G3.out⟩
  obtain ⟨cs, hcs, hsz, hat⟩ := H6.out
  have ecs : cs = #[.map (some (w.heap.size + 1)), .map (some (w.heap.size + 1 + 1)), .slice none 0 0] := by
    apply Array.ext_getElem?
    intro i
    match i with
    | 0 => rw [hat 0 (by decide)]; rfl
    | 1 => rw [hat 1 (by decide)]; rfl
    | 2 => rw [hat 2 (by decide)]; rfl
    | i + 3 => rw [Array.getElem?_eq_none (by omega)]; rfl
  rw [ecs] at hcs
  exact results_cell_row rfl _ _ w.heap.size _ _ _ _ rfl hcs Try.underlying77 rfl (by kernel_rfl)
end Go.Proofs.Ytbebnjeamlmclaa
