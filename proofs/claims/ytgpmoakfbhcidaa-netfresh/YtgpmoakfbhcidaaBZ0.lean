/- Rows of bytes of one's own, marked by a conversion or not; small laws of lists; append of one byte. -/
import Derived.Test.YtgpmoakfbhcidaaX6
import Derived.ArgAppend
namespace Go.Proofs.Ytgpmoakfbhcidaa
open Go.RowKit
set_option maxRecDepth 100000
set_option maxRecDepth 100000

/-- A row of bytes of one's own, of which no cell is frozen. -/
def OwnZ (w : World) (B : Nat) (v : Value) (n : Nat) (x : Nat → Nat) : Prop := (cellsOf n x).length = n ∧
  ((v = .slice none 0 0 ∧ n = 0) ∨ ∃ g cap cur, v = .slice (some ⟨g, 0, none⟩) n cap ∧ B ≤ g ∧ (∃ fz : Nat × Nat, w.heap[g]? = some (.cells cur 5 fz) ∧ ∀ j, j < cur.size → ¬ (fz.1 ≤ j ∧ j < fz.2)) ∧ n ≤ cap ∧ True ∧ cur.size = cap ∧ cur.toList.take n = cellsOf n x)
section
variable {w w' : World} {B n : Nat} {v : Value} {x y : Nat → Nat}
theorem Own.z (h : Own w B v n x) : OwnZ w B v n x := by
  refine ⟨length_cellsOf _ _, ?_⟩
  rcases h.2 with h0 | ⟨g, cap, cur, e, hb, hq, hc, hm, hs, ht⟩
  · exact .inl h0
  · exact .inr ⟨g, cap, cur, e, hb, ⟨(0, 0), hq, fun j _ h => by have := h.2; simp at this⟩, hc, trivial, by omega, by rw [Nat.mul_one] at ht; exact ht⟩
theorem ownZ_keep (h : OwnZ w B v n x) (hk : ∀ k, v.ownBlock = some k → w'.heap[k]? = w.heap[k]?) : OwnZ w' B v n x := by
  refine ⟨h.1, ?_⟩
  rcases h.2 with h1 | ⟨g, cap, cur, e, hb, ⟨fz, hh, hz⟩, r⟩
  · exact Or.inl h1
  · exact Or.inr ⟨g, cap, cur, e, hb, ⟨fz, by rw [hk g (by rw [e]; rfl)]; exact hh, hz⟩, r⟩
theorem ownZ_lt (h : OwnZ w B v n x) : ∀ k, v.ownBlock = some k → k < w.heap.size := fun k hk => by
  rcases h.2 with ⟨rfl, _⟩ | ⟨g, cap, cur, rfl, hb, ⟨fz, hh, _⟩, _⟩
  · simp [Value.ownBlock] at hk
  · obtain rfl : g = k := by simpa [Value.ownBlock] using hk
    exact (Array.getElem?_eq_some_iff.1 hh).1
theorem ownZ_block (h : OwnZ w B v n x) : ∀ k, v.ownBlock = some k → B ≤ k := fun k hk => by
  rcases h.2 with ⟨rfl, _⟩ | ⟨g, cap, cur, rfl, hb, _⟩
  · simp [Value.ownBlock] at hk
  · obtain rfl : g = k := by simpa [Value.ownBlock] using hk
    exact hb
theorem ownZ_since (h : OwnZ w B v n x) (hx : w.Since w.heap.size w') : OwnZ w' B v n x := ownZ_keep h (fun k e => hx.block k (ownZ_lt h k e))
theorem ownZ_congr (h : OwnZ w B v n x) (e : ∀ j, j < n → x j = y j) : OwnZ w B v n y := by
  have : cellsOf n x = cellsOf n y := List.map_congr_left (fun j hj => by rw [e j (List.mem_range.1 hj)])
  unfold OwnZ at h ⊢
  rwa [← this]
theorem ownZ_form (h : OwnZ w B v n x) : ∃ a c, v = .slice a n c := by
  rcases h.2 with ⟨e, h0⟩ | ⟨g, cap, cur, e, _⟩
  · exact ⟨none, 0, by rw [e, h0]⟩
  · exact ⟨_, cap, e⟩
theorem ownZ_at {g cap : Nat} (h : OwnZ w B (.slice (some ⟨g, 0, none⟩) n cap) n x) (j : Nat) (hj : j < n) : w.cell? ⟨g, j, none⟩ = some (.int .u8 (x j : Nat)) := by
  rcases h.2 with ⟨e, h0⟩ | ⟨g', cap', cur, e, _, ⟨fz, hh, _⟩, hc, _, hs, ht⟩
  · cases e
  · cases e
    have h2 := congrArg (fun l : List Value => l[j]?) ht
    rw [List.getElem?_take_of_lt hj, get_cellsOf hj, Array.getElem?_toList] at h2
    simp [World.cell?, hh, h2]
theorem ownZ_frozen {g cap : Nat} (h : OwnZ w B (.slice (some ⟨g, 0, none⟩) n cap) n x) (j : Nat) (hj : j < cap) : w.frozen? ⟨g, j, none⟩ = false := by
  rcases h.2 with ⟨e, h0⟩ | ⟨g', cap', cur, e, _, ⟨fz, hh, hz⟩, hc, _, hs, ht⟩
  · cases e
  · cases e
    have := hz j (by omega)
    obtain ⟨lo, hi⟩ := fz
    simp only [World.frozen?, hh]
    simp only at this
    simp
    omega
theorem ownZ_byt' (h : OwnZ w B v n x) : ∃ a c, v = .slice a n c ∧ Byt w a n x ∧ (a = none → n = 0 ∧ c = 0) := by
  rcases h.2 with ⟨e, h0⟩ | ⟨g, cap, cur, e, _⟩
  · subst h0
    exact ⟨none, 0, e, fun j hj => absurd hj (Nat.not_lt_zero _), fun _ => ⟨rfl, rfl⟩⟩
  · subst e
    exact ⟨_, cap, rfl, fun j hj => ⟨g, 0, rfl, by rw [Nat.zero_add]; exact ownZ_at h j hj⟩, fun e => by cases e⟩
theorem ownZ_row (h : OwnZ w B v n x) (hn : 0 < n) : ∃ g cap, ∃ _ : Unit, v = .slice (some ⟨g, 0, none⟩) n cap ∧ B ≤ g ∧ n ≤ cap ∧ True ∧ True := by
  rcases h.2 with ⟨_, h0⟩ | ⟨g, cap, cur, e, hb, _, hc, _⟩
  · omega
  · exact ⟨g, cap, (), e, hb, hc, trivial, trivial⟩
theorem heap_set (w : World) (g i : Nat) (cur : Array Value) (t : TypeId) (fz : Nat × Nat) (u : Value) (h : w.heap[g]? = some (.cells cur t fz)) : (w.setCell ⟨g, i, none⟩ u).heap[g]? = some (.cells (cur.setIfInBounds i u) t fz) := by
  simp [World.setCell, Array.getElem?_modify, h]
theorem ownZ_set {g cap : Nat} (h : OwnZ w B (.slice (some ⟨g, 0, none⟩) n cap) n x) (i c : Nat) : OwnZ (w.setCell ⟨g, i, none⟩ (.int .u8 (c : Nat))) B (.slice (some ⟨g, 0, none⟩) n cap) n (fun j => if j = i then c else x j) := by
  refine ⟨length_cellsOf _ _, ?_⟩
  rcases h.2 with ⟨e, h0⟩ | ⟨g', cap', cur, e, hb, ⟨fz, hh, hz⟩, hc, hm, hs, ht⟩
  · cases e
  · cases e
    refine .inr ⟨g, cap, cur.setIfInBounds i (.int .u8 (c : Nat)), rfl, hb, ⟨fz, heap_set w g i cur _ fz _ hh, fun j hj => hz j (by simpa using hj)⟩, hc, hm, by simpa using hs, ?_⟩
    apply List.ext_getElem?
    intro j
    by_cases hj : j < n
    · rw [List.getElem?_take_of_lt hj, get_cellsOf hj, Array.getElem?_toList, Array.getElem?_setIfInBounds]
      by_cases e : i = j
      · subst e
        simp
        omega
      · have e2 : ¬ j = i := fun h => e h.symm
        rw [if_neg e, if_neg e2]
        have h2 := congrArg (fun l : List Value => l[j]?) ht
        rw [List.getElem?_take_of_lt hj, get_cellsOf hj, Array.getElem?_toList] at h2
        exact h2
    · rw [List.getElem?_eq_none (by rw [List.length_take]; omega), List.getElem?_eq_none (by rw [length_cellsOf]; omega)]
/-- One byte more in its own room. -/
theorem ownZ_more {g cap : Nat} (h : OwnZ w B (.slice (some ⟨g, 0, none⟩) n cap) n x) (c : Nat) (hr : n + 1 ≤ cap) : OwnZ (w.setCell ⟨g, n, none⟩ (.int .u8 (c : Nat))) B (.slice (some ⟨g, 0, none⟩) (n + 1) cap) (n + 1) (cat x n (fun _ => c)) := by
  refine ⟨length_cellsOf _ _, ?_⟩
  rcases h.2 with ⟨e, h0⟩ | ⟨g', cap', cur, e, hb, ⟨fz, hh, hz⟩, hc, hm, hs, ht⟩
  · cases e
  · cases e
    refine .inr ⟨g, cap, cur.setIfInBounds n (.int .u8 (c : Nat)), rfl, hb, ⟨fz, heap_set w g n cur _ fz _ hh, fun j hj => hz j (by simpa using hj)⟩, hr, hm, by simpa using hs, ?_⟩
    apply List.ext_getElem?
    intro j
    by_cases hj : j < n + 1
    · rw [List.getElem?_take_of_lt hj, get_cellsOf hj, Array.getElem?_toList, Array.getElem?_setIfInBounds]
      by_cases e : n = j
      · subst e
        simp [cat]
        omega
      · have hj2 : j < n := by omega
        rw [if_neg e]
        have h2 := congrArg (fun l : List Value => l[j]?) ht
        rw [List.getElem?_take_of_lt hj2, get_cellsOf hj2, Array.getElem?_toList] at h2
        rw [h2]
        simp [cat, hj2]
    · rw [List.getElem?_eq_none (by rw [List.length_take]; omega), List.getElem?_eq_none (by rw [length_cellsOf]; omega)]
end
theorem FlB.ownZ {w : World} {B g c : Nat} {s : ByteArray} (h : FlB w g c s) (hB : B ≤ g) : OwnZ w B (.slice (some ⟨g, 0, none⟩) s.size c) s.size (bx s) := by
  obtain ⟨cs, h1, h2, h3, _⟩ := h.blk
  refine ⟨length_cellsOf _ _, .inr ⟨g, c, cs, rfl, hB, ⟨(c, c + 1), h1, fun j hj h => by have := h.1; simp at this; omega⟩, h.le, trivial, h2, ?_⟩⟩
  have hl := h.le
  apply List.ext_getElem?
  intro j
  by_cases hj : j < s.size
  · rw [List.getElem?_take_of_lt hj, get_cellsOf hj, Array.getElem?_toList, h3 j hj]
  · rw [List.getElem?_eq_none (by rw [List.length_take]; omega), List.getElem?_eq_none (by rw [length_cellsOf]; omega)]
theorem ownZ_nil (w : World) (B : Nat) (x : Nat → Nat) : OwnZ w B (.slice none 0 0) 0 x := ⟨length_cellsOf _ _, .inl ⟨rfl, rfl⟩⟩
/-- Byte k of the mark of list n. -/
def mrk (n k : Nat) : Nat := if k % 2 = 0 then 1 + n % 251 else 1 + (7 * n + n / 251) % 251
theorem mrk_lt (n k : Nat) : mrk n k < 256 := by
  unfold mrk
  split <;> omega
theorem at_any' (n k : Nat) (w : World) (hn : n ≤ 1000000000) : Calls Try.prog 79 #[.int .i64 n, .int .i64 k] w fun e w' => e = .returned (.int .u8 (mrk n k : Nat)) ∧ w' = w := by
  by_cases h2 : k % 2 = 0
  · have e : mrk n k = 1 + n % 251 := if_pos h2
    rw [e]
    have h1 : Int.tmod (k : Int) 2 = 0 := by
      have := Int.ofNat_tmod k 2
      rw [h2] at this
      exact this.symm
    obtain ⟨r, hr, hr2⟩ : ∃ r : Nat, Int.tmod (n : Int) 251 = (r : Int) ∧ r = n % 251 := ⟨n % 251, (Int.ofNat_tmod n 251).symm, rfl⟩
    obtain ⟨q, hq, hq2⟩ : ∃ q : Nat, (1 : Int) + (r : Int) = (q : Int) ∧ q = 1 + r := ⟨1 + r, by omega, rfl⟩
    have hw : IntKind.i64.wrap (q : Int) = (q : Int) := by rw [IntKind.wrap_i64]; omega
    have hw8 : IntKind.u8.wrap (q : Int) = (q : Int) := by rw [IntKind.wrap_u8']; omega
    have hfin : q = 1 + n % 251 := by omega
    clear hq2 hr2
    rw [← hfin]
    clear hfin
    go_enter Try.func79, Try.ntmps79
    go_wp2_with fail
    go_ret
    exact ⟨rfl, rfl⟩
  · have e : mrk n k = 1 + (7 * n + n / 251) % 251 := if_neg h2
    rw [e]
    have h1 : Int.tmod (k : Int) 2 = 1 := by
      have := Int.ofNat_tmod k 2
      rw [show k % 2 = 1 by omega] at this
      exact this.symm
    obtain ⟨s, hs, hs2⟩ : ∃ s : Nat, (7 : Int) * (n : Int) = (s : Int) ∧ s = 7 * n := ⟨7 * n, by omega, rfl⟩
    have hws : IntKind.i64.wrap (s : Int) = (s : Int) := by rw [IntKind.wrap_i64]; omega
    obtain ⟨d, hd, hd2⟩ : ∃ d : Nat, Int.tdiv (n : Int) 251 = (d : Int) ∧ d = n / 251 := ⟨n / 251, (Int.ofNat_tdiv n 251).symm, rfl⟩
    obtain ⟨c, hc, hc2⟩ : ∃ c : Nat, (s : Int) + (d : Int) = (c : Int) ∧ c = s + d := ⟨s + d, by omega, rfl⟩
    have hwd : IntKind.i64.wrap (d : Int) = (d : Int) := by rw [IntKind.wrap_i64]; omega
    have hwc : IntKind.i64.wrap (c : Int) = (c : Int) := by rw [IntKind.wrap_i64]; omega
    obtain ⟨r, hr, hr2⟩ : ∃ r : Nat, Int.tmod (c : Int) 251 = (r : Int) ∧ r = c % 251 := ⟨c % 251, (Int.ofNat_tmod c 251).symm, rfl⟩
    obtain ⟨q, hq, hq2⟩ : ∃ q : Nat, (1 : Int) + (r : Int) = (q : Int) ∧ q = 1 + r := ⟨1 + r, by omega, rfl⟩
    have hw : IntKind.i64.wrap (q : Int) = (q : Int) := by rw [IntKind.wrap_i64]; omega
    have hw8 : IntKind.u8.wrap (q : Int) = (q : Int) := by rw [IntKind.wrap_u8']; omega
    have hfin : q = 1 + (7 * n + n / 251) % 251 := by omega
    clear hq2 hr2 hc2 hd2 hs2
    rw [← hfin]
    clear hfin
    go_enter Try.func79, Try.ntmps79
    go_wp2_with fail
    go_ret
    exact ⟨rfl, rfl⟩
/-- append of one byte: in its own room, or into new memory with the old left as it was. -/
theorem app_mark (w : World) (B : Nat) (v : Value) (n : Nat) (x : Nat → Nat) (hown : OwnZ w B v n x) (g c : Nat) (hc : w.cell? ⟨g, 0, none⟩ = some (.int .u8 (c : Nat))) (hmax : n + 1 ≤ 140737488355328) (hB : B ≤ w.heap.size) :
    ∃ v' w', (Builtin.append_ #[53, 53] 53 #[v, .slice (some ⟨g, 0, none⟩) 1 1]).run Try.prog w = .ok v' w' ∧ OwnZ w' B v' (n + 1) (cat x n (fun _ => c)) ∧ w.grownBy w' v.ownBlock ∧ (v'.ownBlock = v.ownBlock ∨ (v'.ownBlock = some w.heap.size ∧ w.Since w.heap.size w')) := by
  obtain ⟨i0, hi, hz0, hz1, hz2⟩ := info_parts Try.info5
  have hnews : ∀ j u, [Value.int .u8 (c : Nat)][j]? = some u → w.cell? ((⟨g, 0, none⟩ : Addr).add j) = some u := fun j u hu => by
    match j with
    | 0 =>
      have : u = .int .u8 (c : Nat) := by simpa using hu.symm
      rw [this]
      simpa [Addr.add] using hc
    | j + 1 => simp at hu
  have hone : ∀ u ∈ [Value.int .u8 (c : Nat)], u.oneCell' = true := fun u hu => by
    have : u = .int .u8 (c : Nat) := by simpa using hu
    rw [this]; rfl
  have hml : maxLen = 9223372036854775807 := rfl
  have hce : cellsOf n x ++ [.int .u8 (c : Nat)] = cellsOf (n + 1) (cat x n (fun _ => c)) := by
    rw [← cellsOf_cat]; rfl
  have grown : ∀ old, old < n + 1 → OwnZ (w.drew.alloc (.cells ((cellsOf n x).toArray ++ [Value.int .u8 (c : Nat)].toArray ++ Builtin.zeroCells (Value.int .u8 0).cells (grownCap w (n + 1) old 5 - (n + 1))) 5)) B (.slice (some ⟨w.heap.size, 0, none⟩) (n + 1) (grownCap w (n + 1) old 5)) (n + 1) (cat x n (fun _ => c)) := fun old _ => by
    have hge := grownCap_ge w (n + 1) old 5
    refine ⟨length_cellsOf _ _, .inr ⟨w.heap.size, _, _, rfl, hB, ⟨(0, 0), heap_alloc_new w.drew _, fun j _ h => by have := h.2; simp at this⟩, hge, trivial, ?_, ?_⟩⟩
    · simp only [Array.size_append, List.size_toArray, size_zeroCells, length_cellsOf]
      have : (Value.int .u8 0).cells.size = 1 := rfl
      rw [this]
      simp
      omega
    · rw [← hce]
      simp only [Array.toList_append]
      rw [List.take_append_of_le_length (by simp [length_cellsOf]), List.take_of_length_le (by simp [length_cellsOf])]
  rcases hown.2 with ⟨e, h0⟩ | ⟨q, cap, cur, e, hbg, _, hnc, _, hcs, _⟩
  · subst e h0
    have hr := run_append_nil (P := Try.prog) w 53 53 5 i0 (.int .u8 0) Try.underlying53 hi hz0 ⟨g, 0, none⟩ 1 1 [.int .u8 (c : Nat)] (by rw [hz1]; rfl) hnews (by decide) (by decide) (by rw [hz2]; decide)
    have hG := grown 0 (by decide)
    refine ⟨_, _, hr, ?_, ⟨rfl, rfl, rfl, by simp, fun k hk _ => heap_alloc_old w.drew _ hk⟩, .inr ⟨rfl, rfl, rfl, rfl, by simp, fun k hk => heap_alloc_old w.drew _ hk⟩⟩
    simpa [cellsOf] using hG
  · subst e
    by_cases hroom : n + 1 ≤ cap
    · have hcc : (w.cell? ⟨q, 0 + n * i0.size + 0, none⟩).isSome = true ∧ w.frozen? ⟨q, 0 + n * i0.size + 0, none⟩ = false := by
        rw [hz1, show 0 + n * 1 + 0 = n by omega]
        refine ⟨?_, ownZ_frozen hown n (by omega)⟩
        rcases hown.2 with ⟨e, _⟩ | ⟨q', cap', cur', e, _, ⟨fz, hh, _⟩, _, _, hs, _⟩
        · cases e
        · cases e
          simp [World.cell?, hh, show n < cur'.size by omega]
      have hr := run_append_room_cells (P := Try.prog) w 53 53 5 i0 Try.underlying53 hi q 0 n cap ⟨g, 0, none⟩ 1 1 [.int .u8 (c : Nat)] (by rw [hz1]; rfl) hnews hone hroom (fun j hj => by
        obtain rfl : j = 0 := by simpa using hj
        exact hcc.1) (fun j hj => by
        obtain rfl : j = 0 := by simpa using hj
        exact hcc.2)
      rw [hz1, show 0 + n * 1 = n by omega] at hr
      refine ⟨_, _, hr, ownZ_more hown c hroom, ⟨rfl, rfl, rfl, by simp [World.setCells, World.setCell], fun k _ hk => Below.heap_setCell _ _ _ _ (fun e => hk (by rw [e]; rfl))⟩, .inl rfl⟩
    · have hr := run_append_grow (P := Try.prog) w 53 53 5 i0 (.int .u8 0) Try.underlying53 hi hz0 ⟨q, 0, none⟩ n cap (cellsOf n x) (by rw [hz1, length_cellsOf]; omega) (fun j u hu => by
        have hj : j < n := by have := (List.getElem?_eq_some_iff.1 hu).1; rwa [length_cellsOf] at this
        rw [get_cellsOf hj] at hu
        rw [Addr.add_lit, Nat.zero_add, ownZ_at hown j hj]
        exact hu) ⟨g, 0, none⟩ 1 1 [.int .u8 (c : Nat)] (by rw [hz1]; rfl) hnews (by omega) (by omega) (by rw [hz2]; exact growslice_fits (by omega) (by omega))
      exact ⟨_, _, hr, grown cap (by omega), ⟨rfl, rfl, rfl, by simp, fun k hk _ => heap_alloc_old w.drew _ hk⟩, .inr ⟨rfl, rfl, rfl, rfl, by simp, fun k hk => heap_alloc_old w.drew _ hk⟩⟩
theorem Try.infoB : (Try.prog.info? 53).map (fun i => (i.zero, i.size, i.bytes)) = some (some (.slice none 0 0), 1, 24) := by kernel_rfl

/-- append of one value onto a slice of the call's own. -/
theorem app_one {t e : TypeId} {z : Value} {bytes : Nat} (ht : Try.prog.underlying t = some (.slice e)) (hinfo : (Try.prog.info? e).map (fun i => (i.zero, i.size, i.bytes)) = some (some z, 1, bytes)) (hz : z.cells.size = 1) (hby : bytes ≤ 24)
    (w : World) (B : Nat) (v : Value) (n : Nat) (xs : List Value) (hown : w.ownsRow B e 1 v n xs) (g : Nat) (u : Value) (hc : w.cell? ⟨g, 0, none⟩ = some u) (hu : u.oneCell' = true) (hn : n ≤ 1000000) (hB : B ≤ w.heap.size) :
    ∃ v' w', (Builtin.append_ #[t, t] t #[v, .slice (some ⟨g, 0, none⟩) 1 1]).run Try.prog w = .ok v' w' ∧ w'.ownsRow B e 1 v' (n + 1) (xs ++ [u]) ∧ w.grownBy w' v.ownBlock ∧ (v'.ownBlock = v.ownBlock ∨ v'.ownBlock = some w.heap.size) := by
  obtain ⟨i0, hi, hz0, hz1, hz2⟩ := info_parts hinfo
  obtain ⟨v', w', hr, h1, h2, _, h5⟩ := run_append_own_at (P := Try.prog) w B t t e i0 z 1 bytes ht hi hz0 hz1 hz2 hz (by decide) v n _ hown ⟨g, 0, none⟩ 1 1 [u] rfl
    (fun j q hq => by
      match j with
      | 0 =>
        have : q = u := by simpa using hq.symm
        rw [this]
        simpa [Addr.add] using hc
      | j + 1 => simp at hq)
    (fun q hq => by
      have : q = u := by simpa using hq
      rw [this]; exact hu)
    (by unfold maxLen; omega) (by have : (n + 1) * bytes ≤ 1000001 * 24 := Nat.mul_le_mul (by omega) hby; omega) hB
  exact ⟨v', w', hr, h1, h2, h5⟩
theorem owns_keep {w w' : World} {B e n : Nat} {v : Value} {xs : List Value} (h : w.ownsRow B e 1 v n xs) (hk : ∀ k, v.ownBlock = some k → w'.heap[k]? = w.heap[k]?) : w'.ownsRow B e 1 v n xs := by
  refine ⟨h.1, ?_⟩
  rcases h.2 with h1 | ⟨g, cap, cur, e, hb, hh, r⟩
  · exact Or.inl h1
  · exact Or.inr ⟨g, cap, cur, e, hb, by rw [hk g (by rw [e]; rfl)]; exact hh, r⟩
theorem range_map_succ {α : Type} (f : Nat → α) (n : Nat) : (List.range (n + 1)).map f = (List.range n).map f ++ [f n] := by
  rw [List.range_succ, List.map_append]; rfl
def put {α : Type} (f : Nat → α) (k : Nat) (x : α) : Nat → α := fun i => if i = k then x else f i
theorem put_at {α : Type} (f : Nat → α) (k : Nat) (x : α) : put f k x k = x := if_pos rfl
theorem put_ne {α : Type} (f : Nat → α) (k : Nat) (x : α) {j : Nat} (h : j ≠ k) : put f k x j = f j := if_neg h
theorem map_put {α : Type} (f : Nat → α) (k n : Nat) (x : α) : (List.range n).map (put f k x) = ((List.range n).map f).set k x := by
  apply List.ext_getElem?
  intro j
  rw [List.getElem?_set]
  by_cases hj : j < n
  · by_cases e : k = j
    · subst e; simp [hj, put_at]
    · have e' : j ≠ k := fun h => e h.symm
      simp [hj, e, put_ne _ _ _ e']
  · simp [hj]
    omega
/-- Nothing that was there has turned but block r. -/
structure But (r : Nat) (w w' : World) : Prop where
  os : w'.os = w.os
  tape : w'.tape = w.tape
  output : w'.output = w.output
  size : w.heap.size ≤ w'.heap.size
  block : ∀ k, k < w.heap.size → k ≠ r → w'.heap[k]? = w.heap[k]?
theorem But.of_since {r : Nat} {w w' : World} (h : w.Since w.heap.size w') : But r w w' := ⟨h.os, h.tape, h.output, h.size, fun k hk _ => h.block k hk⟩
theorem But.trans {r : Nat} {a b c : World} (h : But r a b) (k : But r b c) : But r a c :=
  ⟨k.os.trans h.os, k.tape.trans h.tape, k.output.trans h.output, Nat.le_trans h.size k.size, fun i hi hr => (k.block i (Nat.lt_of_lt_of_le hi h.size) hr).trans (h.block i hi hr)⟩
theorem But.setCell {r : Nat} {w w' : World} (h : But r w w') (i : Nat) (v : Value) : But r w (w'.setCell ⟨r, i, none⟩ v) :=
  ⟨h.os, h.tape, h.output, by have := h.size; simpa [World.setCell] using this, fun k hk hr => by rw [Below.heap_setCell _ _ _ _ hr]; exact h.block k hk hr⟩
theorem Mv.of_since {F : Nat → Prop} {w w' : World} (h : w.Since w.heap.size w') : Mv F F w w' := ⟨h.os, h.tape, h.output, h.size, fun k hk _ => h.block k hk, fun _ hf => Or.inl hf⟩
theorem Mv.widen {F F' G : Nat → Prop} {w w' : World} (h : Mv F F' w w') (hg : ∀ k, F k → G k) : Mv G F' w w' := ⟨h.os, h.tape, h.output, h.size, fun k hk hn => h.block k hk (fun hf => hn (hg k hf)), fun k hf => (h.foot k hf).imp_left (hg k)⟩
theorem Mv.since {F F' : Nat → Prop} {w0 w w' : World} {B : Nat} (h0 : w0.Since B w) (hB : B ≤ w.heap.size) (hF : ∀ k, F k → B ≤ k) (h : Mv F F' w w') : w0.Since B w' :=
  ⟨h.os.trans h0.os, h.tape.trans h0.tape, h.output.trans h0.output, Nat.le_trans h0.size h.size, fun k hk => (h.block k (Nat.lt_of_lt_of_le hk hB) (fun hf => by have := hF k hf; omega)).trans (h0.block k hk)⟩
theorem since_drewN' {B : Nat} {w w' : World} (h : w.Since B w') (m : Nat) : w.Since B (w'.drewN m) := ⟨h.os, h.tape, h.output, h.size, h.block⟩

end Go.Proofs.Ytgpmoakfbhcidaa
