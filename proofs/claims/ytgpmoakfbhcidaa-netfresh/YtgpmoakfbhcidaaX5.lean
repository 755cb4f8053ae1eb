/- The document's own net: Double. What was sent is written over. The empty Book. -/
import Derived.Test.YtgpmoakfbhcidaaX4
namespace Go.Proofs.Ytgpmoakfbhcidaa
open Go.RowKit
set_option maxRecDepth 100000
set_option maxRecDepth 100000
section
variable {w w' : World} {B rb : Nat} {fv : Value} {room lost : Nat} {xs : List (Ms × Value)}
set_option maxHeartbeats 3200000 in
theorem rdouble_some (h : RefIs w B rb fv xs room lost) (hB : B ≤ w.heap.size) (i : Nat) (x : Int) (s : ByteArray) (v : Value) (hm : xs[i]? = some (⟨x, s⟩, v)) (hl : xs.length < room) :
    Calls Try.prog 33 #[.pointer (some ⟨rb, 0, none⟩), .int .i64 (i : Nat)] w fun e w' => e = .returned (.bool true) ∧ ∃ fv' v, RefIs w' B rb fv' (xs ++ [(⟨x, s⟩, v)]) room lost ∧ Mv (RFt rb fv xs) (RFt rb fv' (xs ++ [(⟨x, s⟩, v)])) w w' := by
  have hi := (List.getElem?_eq_some_iff.1 hm).1
  obtain ⟨g, vc, ev, hvc, p0, p1⟩ := h.msg hm
  obtain ⟨vg, ev2, hvb⟩ := (h.byt _ (List.mem_of_getElem? hm)).byt
  have hss : s.size ≤ 140737488351232 := by obtain ⟨_, _, _, _, h4⟩ := h.byt _ (List.mem_of_getElem? hm); exact h4
  replace ev2 : v = .slice (some ⟨vg, 0, none⟩) s.size s.size := ev2
  subst ev2
  replace p0 : w.cell? ⟨g, i * 2, none⟩ = some (.int .i64 x) := p0
  replace p1 : w.cell? ⟨g, i * 2 + 1, none⟩ = some (.slice (some ⟨vg, 0, none⟩) s.size s.size) := p1
  have hrm := h.rm
  have hz1 : ¬ (i : Int) < 0 := by omega
  have hz2 : ¬ (i : Int) ≥ (xs.length : Int) := by omega
  have hz4 : (i : Int) < (xs.length : Int) := by omega
  have hz3 : ¬ (xs.length : Int) ≥ (room : Int) := by omega
  have HC : Hid (∀ q, (w.drewN q).cell? ⟨rb, 0, none⟩ = some fv ∧ (w.drewN q).drew.cell? ⟨rb, 0, none⟩ = some fv ∧ (w.drewN q).drew.cell? ⟨g, i * 2, none⟩ = some (.int .i64 x) ∧ (w.drewN q).drew.cell? ⟨g, i * 2 + 1, none⟩ = some (.slice (some ⟨vg, 0, none⟩) s.size s.size)) := fun q => ⟨h.c0, h.c0, p0, p1⟩
  have HP : Hid (∀ (W w1 : World) (gn : Nat), w.heap.size = W.heap.size → Below w.heap.size w W → W.heap.size ≤ gn → Below W.heap.size W w1 → w1.rowIs gn 5 s.size (fun j => .int .u8 (bx s j : Nat)) →
      w1.cell? ⟨rb, 0, none⟩ = some fv ∧ (∀ o, (w1.alloc o).cell? ⟨rb, 0, none⟩ = some fv) ∧ ∃ a1 c1 w2, Hid ((Builtin.append_ #[94, 94] 94 #[fv, .slice (some ⟨w1.heap.size, 0, none⟩) 1 1]).run Try.prog (w1.alloc (.cells #[.int .i64 x, .slice (some ⟨gn, 0, none⟩) s.size s.size] 70)) = .ok (.slice a1 (xs.length + 1) c1) w2) ∧ w2.cell? ⟨rb, 0, none⟩ = some fv ∧ w2.frozen? ⟨rb, 0, none⟩ = false ∧
        Hid (∃ fv' v, RefIs (w2.setCell ⟨rb, 0, none⟩ (.slice a1 (xs.length + 1) c1)) B rb fv' (xs ++ [(⟨x, s⟩, v)]) room lost ∧ Mv (RFt rb fv xs) (RFt rb fv' (xs ++ [(⟨x, s⟩, v)])) w (w2.setCell ⟨rb, 0, none⟩ (.slice a1 (xs.length + 1) c1)))) := by
    intro W w1 gn hWz hbW hgn hb1 hrow
    have hgl := hrow.lt
    have hb01 : Below w.heap.size w w1 := hbW.trans (hb1.mono (by omega))
    have h1 := h.on hb01
    obtain ⟨a1, c1, w2, hrun, ho2, hg2, hn2⟩ := app_fl h1.own (.int .i64 x) (.slice (some ⟨gn, 0, none⟩) s.size s.size) rfl rfl (by omega) (by have := hb1.size; omega)
    have hk2 : ∀ k, k < w1.heap.size → fv.ownBlock ≠ some k → w2.heap[k]? = w1.heap[k]? := fun k hk hne => hg2.block k hk (fun e => hne e.symm)
    have hr2 : w2.rowIs rb 96 3 (refCell fv room lost) := h1.row.of_block (hk2 rb h1.row.lt h1.nm)
    refine ⟨h1.c0, fun o => (h1.on ((Below.refl _ _).alloc (Nat.le_refl _) o)).c0, a1, c1, w2, hrun, hr2.cell (i := 0) (by decide), hr2.frozen 0, ?_⟩
    have hcb : CB w2 B (.slice (some ⟨gn, 0, none⟩) s.size s.size) s := ⟨gn, rfl, by omega, hrow.of_block (hk2 gn hgl (fun e2 => by
      have := (rows_lt h.own gn e2).2
      omega)), hss⟩
    obtain ⟨fv', hR, hM⟩ := h.turn (w2 := w2) (xs' := xs ++ [(⟨x, s⟩, .slice (some ⟨gn, 0, none⟩) s.size s.size)]) hr2 (by rw [flCells_app, List.length_append]; exact ho2) (fun y hy => by
        rcases List.mem_append.1 hy with q | q
        · exact (h1.byt y q).on (fun k e => hk2 k ((h1.byt y q).lt k e).2 (fun e2 => by
            obtain ⟨g, ev, _, hrg, _⟩ := h1.byt y q
            have : g = k := by rw [ev] at e; simpa [Value.ownBlock] using e
            subst this
            exact rows_apart h1.own hrg (by decide) e2))
        · have : y = (⟨x, s⟩, .slice (some ⟨gn, 0, none⟩) s.size s.size) := by simpa using q
          rw [this]
          exact hcb) (by rw [List.length_append]; show xs.length + 1 ≤ room; omega) (hg2.os.trans hb01.os) (hg2.tape.trans hb01.tape) (hg2.output.trans hb01.output) (by have := hg2.size; have := hb01.size; omega) (fun k hk _ hne => (hk2 k (by have := hb01.size; omega) hne).trans (hb01.block k hk)) (fun k e => (hn2 k e).imp_right (fun q => by have := hb01.size; omega)) (fun y hy => by
        rcases List.mem_append.1 hy with q | q
        · exact .inl q
        · have : y = (⟨x, s⟩, .slice (some ⟨gn, 0, none⟩) s.size s.size) := by simpa using q
          rw [this]
          refine .inr (fun k e => ?_)
          have : gn = k := by simpa [Value.ownBlock] using e
          omega)
    exact ⟨fv', _, hR, hM⟩
  have HCP : Hid (∀ q, Calls Try.prog 51 #[.agg #[.int .i64 x, .slice (some ⟨vg, 0, none⟩) s.size s.size]] (w.drewN q).drew fun e w1 => ∃ gn, e = .returned (.agg #[.int .i64 x, .slice (some ⟨gn, 0, none⟩) s.size s.size]) ∧ w1.cell? ⟨rb, 0, none⟩ = some fv ∧ (∀ o, (w1.alloc o).cell? ⟨rb, 0, none⟩ = some fv) ∧ ∃ a1 c1 w2, Hid ((Builtin.append_ #[94, 94] 94 #[fv, .slice (some ⟨w1.heap.size, 0, none⟩) 1 1]).run Try.prog (w1.alloc (.cells #[.int .i64 x, .slice (some ⟨gn, 0, none⟩) s.size s.size] 70)) = .ok (.slice a1 (xs.length + 1) c1) w2) ∧ w2.cell? ⟨rb, 0, none⟩ = some fv ∧ w2.frozen? ⟨rb, 0, none⟩ = false ∧
        Hid (∃ fv' v, RefIs (w2.setCell ⟨rb, 0, none⟩ (.slice a1 (xs.length + 1) c1)) B rb fv' (xs ++ [(⟨x, s⟩, v)]) room lost ∧ Mv (RFt rb fv xs) (RFt rb fv' (xs ++ [(⟨x, s⟩, v)])) w (w2.setCell ⟨rb, 0, none⟩ (.slice a1 (xs.length + 1) c1)))) := fun q =>
    (twin_any x (some ⟨vg, 0, none⟩) s.size s (w.drewN q).drew hss hvb).mono fun e w1 ⟨gn, he, h1, h2, h3⟩ => ⟨gn, he, HP.out (w.drewN q).drew w1 gn rfl ⟨rfl, rfl, rfl, Nat.le_refl _, fun _ _ => rfl⟩ h1 h3 h2⟩
  have k0 := h.c0
  have k1 := h.c1
  subst ev
  obtain ⟨S, HS⟩ : ∃ S, Hid (s.size = S) := ⟨_, rfl⟩
  rw [HS.out] at HCP HC
  obtain ⟨n1, Hn1⟩ : ∃ n1, Hid (xs.length + 1 = n1) := ⟨_, rfl⟩
  rw [Hn1.out] at HCP
  generalize xs.length = n at *
  clear h HP hss hl hrm hB hvb hm hi p0 p1
  go_enter Try.func33, Try.ntmps33
  go_upto_region 1 with fail
  go_quiet (fail)
  obtain ⟨kd, kdd, kp0, kp1⟩ := HC.out nq
  have hc := HCP.out nq
  clear HC HCP k0 k1
  generalize w.drewN nq = wq at *
  have HC2 : Hid (Calls Try.prog 51 #[.agg #[.int .i64 x, .slice (some ⟨vg, 0, none⟩) S S]] wq.drew fun e w1 => ∃ gn, e = .returned (.agg #[.int .i64 x, .slice (some ⟨gn, 0, none⟩) S S]) ∧ w1.cell? ⟨rb, 0, none⟩ = some (.slice (some ⟨g, 0, none⟩) n vc) ∧ (∀ o, (w1.alloc o).cell? ⟨rb, 0, none⟩ = some (.slice (some ⟨g, 0, none⟩) n vc)) ∧ ∃ a1 c1 w2, Hid ((Builtin.append_ #[94, 94] 94 #[.slice (some ⟨g, 0, none⟩) n vc, .slice (some ⟨w1.heap.size, 0, none⟩) 1 1]).run Try.prog (w1.alloc (.cells #[.int .i64 x, .slice (some ⟨gn, 0, none⟩) S S] 70)) = .ok (.slice a1 n1 c1) w2) ∧ w2.cell? ⟨rb, 0, none⟩ = some (.slice (some ⟨g, 0, none⟩) n vc) ∧ w2.frozen? ⟨rb, 0, none⟩ = false ∧
        Hid (∃ fv' v, RefIs (w2.setCell ⟨rb, 0, none⟩ (.slice a1 n1 c1)) B rb fv' (xs ++ [(⟨x, s⟩, v)]) room lost ∧ Mv (RFt rb (.slice (some ⟨g, 0, none⟩) n vc) xs) (RFt rb fv' (xs ++ [(⟨x, s⟩, v)])) w (w2.setCell ⟨rb, 0, none⟩ (.slice a1 n1 c1)))) := hc
  clear hc
  go_upto_region 3 with fail
  go_region_law (first
    | (go_simp; go_at_call 51; refine HC2.out.mono ?_; rintro e w1 ⟨gn, rfl, kc, kca, a1, c1, w2, HR, k2, f2, HE⟩)
    | (refine step_apps2 rfl _ _ 94 rfl _ _ _ (by rfl) (by rfl) HR.out ?_))
  all_goals
    go_wp2_with fail
    go_ret
    exact ⟨rfl, HE.out⟩
theorem rdouble_not (h : RefIs w B rb fv xs room lost) (i : Int) (hi : ¬ (0 ≤ i ∧ i < xs.length ∧ xs.length < room)) :
    Calls Try.prog 33 #[.pointer (some ⟨rb, 0, none⟩), .int .i64 i] w fun e w' => e = .returned (.bool false) ∧ ∃ q, w' = w.drewN q := by
  obtain ⟨a, c, rfl, hc, hm⟩ := h.sl
  have k0 := h.c0
  have k1 := h.c1
  clear h
  generalize xs.length = n at *
  by_cases hn : i < 0
  · go_enter Try.func33, Try.ntmps33
    go_upto_region 1 with fail
    go_quiet (fail)
    go_wp2_with fail
    go_ret
    exact ⟨rfl, _, rfl⟩
  · by_cases hge : i ≥ (n : Int)
    · go_enter Try.func33, Try.ntmps33
      go_upto_region 1 with fail
      go_quiet (fail)
      go_wp2_with fail
      go_ret
      exact ⟨rfl, _, rfl⟩
    · have hz3 : (n : Int) ≥ (room : Int) := by omega
      go_enter Try.func33, Try.ntmps33
      go_upto_region 1 with fail
      go_quiet (fail)
      go_wp2_with fail
      go_ret
      exact ⟨rfl, _, rfl⟩
end
/-- Over: every byte of one's own row is written over. -/
theorem over_any (g n c cap : Nat) (f : Nat → Value) (w : World) (h : w.rowIs g 5 cap f) (hn : n ≤ cap) (hmax : n ≤ 9223372036854775000) :
    Calls Try.prog 26 #[.slice (some ⟨g, 0, none⟩) n c] w fun e w' => e = .returned (.tuple #[]) ∧ Below g w w' ∧ (w'.os = w.os ∧ w'.tape = w.tape ∧ w'.output = w.output ∧ w'.heap.size = w.heap.size) ∧ ∀ k, k ≠ g → w'.heap[k]? = w.heap[k]? := by
  have hg := h.lt
  go_enter Try.func26, Try.ntmps26
  go_wp2_with fail
  go_loopg [2] n (fun q s2 wx => ∃ (i : Nat) (f' : Nat → Value), i ≤ n ∧ q = n - i ∧ s2 = .int .i64 (i : Nat) ∧ wx.rowIs g 5 cap f' ∧ Below g w wx ∧ wx.heap.size = w.heap.size ∧ Hid (∀ k, k ≠ g → wx.heap[k]? = w.heap[k]?))
  case atStart => exact ⟨0, f, Nat.zero_le _, rfl, rfl, h, Below.refl _ _, rfl, fun _ _ => rfl⟩
  case round =>
    clear h
    obtain ⟨i, f', hi, rfl, rfl, hr, hb, hz, HK⟩ := hrel
    by_cases hlt : i < n
    · have hzi : (i : Int) < (n : Int) := by omega
      have hwi : IntKind.i64.wrap ((i : Int) + 1) = (i : Int) + 1 := by rw [IntKind.wrap_i64]; omega
      have k0 : wr.cell? ⟨g, i, none⟩ = some (f' i) := hr.cell (by omega)
      have fz : wr.frozen? ⟨g, i, none⟩ = false := hr.frozen i
      have HE : Hid ((wr.setCell ⟨g, i, none⟩ (.int .u8 238)).rowIs g 5 cap (fun j => if j = i then .int .u8 238 else f' j) ∧ Below g w (wr.setCell ⟨g, i, none⟩ (.int .u8 238)) ∧ (wr.setCell ⟨g, i, none⟩ (.int .u8 238)).heap.size = w.heap.size ∧ Hid (∀ k, k ≠ g → (wr.setCell ⟨g, i, none⟩ (.int .u8 238)).heap[k]? = w.heap[k]?)) :=
        ⟨hr.set i _, hb.setCell (by simp) _, by simp [World.setCell]; exact hz, fun k hk => (Below.heap_setCell _ _ _ _ hk).trans (HK.out k hk)⟩
      generalize f' i = v0 at k0
      clear hr hb hz HK
      go_wp2_with fail
      go_roundg (n - (i + 1))
      case measure => go_light; omega
      case rel => go_light; exact ⟨i + 1, _, by omega, rfl, by simp, HE.out⟩
    · have hzi : ¬ (i : Int) < (n : Int) := by omega
      clear hr
      go_wp2_with fail
      go_end0
      exact ⟨rfl, hb, ⟨hb.os, hb.tape, hb.output, hz⟩, HK.out⟩

/-- A Book in which nothing was written yet. -/
def book0 (i : Nat) : Value := if i = 36 then .int .i64 0 else if i = 37 then .int .i64 0 else if i = 38 then .int .i64 0 else if i % 3 = 2 then .int .i64 0 else .slice none 0 0
end Go.Proofs.Ytgpmoakfbhcidaa
