/- The document's own net: Send, Twin, Look. -/
import Derived.Test.YtgpmoakfbhcidaaX1
namespace Go.Proofs.Ytgpmoakfbhcidaa
open Go.RowKit
set_option maxRecDepth 100000
set_option maxRecDepth 100000
section
variable {w w' : World} {B rb : Nat} {fv : Value} {room lost : Nat} {xs : List (Ms × Value)}
/-- The row is another one. -/
theorem RefIs.turn {w2 : World} {a : Option Addr} {n c : Nat} {xs' : List (Ms × Value)} (h : RefIs w B rb fv xs room lost) (hr : w2.rowIs rb 96 3 (refCell fv room lost)) (ho : w2.ownsRow B 70 2 (.slice a n c) xs'.length (flCells xs')) (hby : ∀ x ∈ xs', CB w2 B x.2 x.1.s) (hle : xs'.length ≤ room)
    (hos : w2.os = w.os) (hta : w2.tape = w.tape) (hou : w2.output = w.output) (hz : w.heap.size ≤ w2.heap.size) (hk : ∀ k, k < w.heap.size → k ≠ rb → fv.ownBlock ≠ some k → w2.heap[k]? = w.heap[k]?) (hn : ∀ k, (Value.slice a n c).ownBlock = some k → fv.ownBlock = some k ∨ w.heap.size ≤ k) (hx : ∀ x ∈ xs', x ∈ xs ∨ ∀ k, x.2.ownBlock = some k → w.heap.size ≤ k) :
    ∃ fv', RefIs (w2.setCell ⟨rb, 0, none⟩ (.slice a n c)) B rb fv' xs' room lost ∧ Mv (RFt rb fv xs) (RFt rb fv' xs') w (w2.setCell ⟨rb, 0, none⟩ (.slice a n c)) := by
  have hset : ∀ b, b ≠ rb → (w2.setCell ⟨rb, 0, none⟩ (.slice a n c)).heap[b]? = w2.heap[b]? := fun b hb => Below.heap_setCell _ _ _ _ hb
  refine ⟨.slice a n c, ⟨?_, rows_keep ho (fun k e => hset k (fun e2 => rows_apart ho hr (by decide) (e2 ▸ e))), fun x hx => (hby x hx).on (fun k e => hset k (fun e2 => ?_)), h.lb, hle, h.rm⟩, hos, hta, hou, ?_, fun k hk1 hnf => ?_, fun k hf => ?_⟩
  · refine (hr.set 0 _).congr (fun i hi => ?_)
    match i, hi with
    | 0, _ => rfl
    | 1, _ => rfl
    | 2, _ => rfl
  · obtain ⟨g, ev, _, h2, _⟩ := hby x hx
    have : g = k := by rw [ev] at e; simpa [Value.ownBlock] using e
    subst this
    exact rowIs_apart h2 hr (by decide) e2
  · simp [World.setCell]; omega
  · exact (hset k (fun e => hnf (.inl e))).trans (hk k hk1 (fun e => hnf (.inl e)) (fun e => hnf (.inr (.inl e))))
  · rcases hf with e | e | ⟨x, hx1, e⟩
    · exact .inl (.inl e)
    · rcases hn k e with q | q
      · exact .inl (.inr (.inl q))
      · exact .inr q
    · rcases hx x hx1 with q | q
      · exact .inl (.inr (.inr ⟨x, q, e⟩))
      · exact .inr (q k e)
theorem cb_new {w w' : World} {B : Nat} {s : ByteArray} (hr : w'.rowIs w.heap.size 5 s.size (fun j => .int .u8 (bx s j : Nat))) (hB : B ≤ w.heap.size) (hs : s.size ≤ 140737488351232) : CB w' B (.slice (some ⟨w.heap.size, 0, none⟩) s.size s.size) s := ⟨w.heap.size, rfl, hB, hr, hs⟩
/-- tallyref0.Copy of the bytes of a string. -/
theorem cpyS (a : Option Addr) (c : Nat) (s : ByteArray) (w : World) (hs : s.size ≤ 140737488351232) (hb : Byt w a s.size (bx s)) :
    Calls Try.prog 42 #[.slice a s.size c] w fun e w' => e = .returned (.slice (some ⟨w.heap.size, 0, none⟩) s.size s.size) ∧ Below w.heap.size w w' ∧ w'.heap.size = w.heap.size + 1 ∧ w'.rowIs w.heap.size 5 s.size (fun j => .int .u8 (bx s j : Nat)) :=
  (copy_any a s.size c (bx s) w (by omega) hb).mono fun e w' ⟨he, h1, h2, h3⟩ => ⟨he, since_below h1, h2, h3⟩

set_option maxHeartbeats 1600000 in
theorem rsend_some (h : RefIs w B rb fv xs room lost) (hB : B ≤ w.heap.size) (hl : xs.length < room) (x : Int) (a : Option Addr) (c : Nat) (s : ByteArray) (hs : s.size ≤ 140737488351232) (hb : Byt w a s.size (bx s)) :
    Calls Try.prog 14 #[.pointer (some ⟨rb, 0, none⟩), .int .i64 x, .slice a s.size c] w fun e w' => e = .returned (.bool true) ∧ ∃ fv' v, RefIs w' B rb fv' (xs ++ [(⟨x, s⟩, v)]) room lost ∧ Mv (RFt rb fv xs) (RFt rb fv' (xs ++ [(⟨x, s⟩, v)])) w w' := by
  obtain ⟨va, vc, ev, hvc, hvm⟩ := h.sl
  have hrm := h.rm
  have hz : ¬ (room : Int) ≤ (xs.length : Int) := by omega
  have c0 : ∀ q, (w.drewN q).cell? ⟨rb, 0, none⟩ = some fv := fun q => h.c0
  have c1 : ∀ q, (w.drewN q).cell? ⟨rb, 1, none⟩ = some (.int .i64 (room : Nat)) := fun q => h.c1
  -- behind the copy: the new row
  have HP : Hid (∀ (W w1 : World), w.heap.size = W.heap.size → Below w.heap.size w W → w1.heap.size = W.heap.size + 1 → Below W.heap.size W w1 → w1.rowIs W.heap.size 5 s.size (fun j => .int .u8 (bx s j : Nat)) →
      w1.cell? ⟨rb, 0, none⟩ = some fv ∧ (∀ o, (w1.alloc o).cell? ⟨rb, 0, none⟩ = some fv) ∧ ∃ a1 c1 w2, Hid ((Builtin.append_ #[94, 94] 94 #[fv, .slice (some ⟨w1.heap.size, 0, none⟩) 1 1]).run Try.prog (w1.alloc (.cells #[.int .i64 x, .slice (some ⟨W.heap.size, 0, none⟩) s.size s.size] 70)) = .ok (.slice a1 (xs.length + 1) c1) w2) ∧ w2.cell? ⟨rb, 0, none⟩ = some fv ∧ w2.frozen? ⟨rb, 0, none⟩ = false ∧
        Hid (∃ fv' v, RefIs (w2.setCell ⟨rb, 0, none⟩ (.slice a1 (xs.length + 1) c1)) B rb fv' (xs ++ [(⟨x, s⟩, v)]) room lost ∧ Mv (RFt rb fv xs) (RFt rb fv' (xs ++ [(⟨x, s⟩, v)])) w (w2.setCell ⟨rb, 0, none⟩ (.slice a1 (xs.length + 1) c1)))) := by
    intro W w1 hWz hbW hz1 hb1 hrow
    have hb01 : Below w.heap.size w w1 := hbW.trans (hb1.mono (by omega))
    have h1 := h.on hb01
    obtain ⟨a1, c1, w2, hrun, ho2, hg2, hn2⟩ := app_fl h1.own (.int .i64 x) (.slice (some ⟨W.heap.size, 0, none⟩) s.size s.size) rfl rfl (by omega) (by omega)
    have hk2 : ∀ k, k < w1.heap.size → fv.ownBlock ≠ some k → w2.heap[k]? = w1.heap[k]? := fun k hk hne => hg2.block k hk (fun e => hne e.symm)
    have hr2 : w2.rowIs rb 96 3 (refCell fv room lost) := h1.row.of_block (hk2 rb h1.row.lt h1.nm)
    refine ⟨h1.c0, fun o => (h1.on ((Below.refl _ _).alloc (Nat.le_refl _) o)).c0, a1, c1, w2, hrun, hr2.cell (i := 0) (by decide), hr2.frozen 0, ?_⟩
    have hcb : CB w2 B (.slice (some ⟨W.heap.size, 0, none⟩) s.size s.size) s := (cb_new hrow (by omega) hs).on (fun k e => hk2 k (by
      have : W.heap.size = k := by simpa [Value.ownBlock] using e
      omega) (fun e2 => by
      have : W.heap.size = k := by simpa [Value.ownBlock] using e
      have := (rows_lt h.own k e2).2
      omega))
    obtain ⟨fv', hR, hM⟩ := h.turn (w2 := w2) (xs' := xs ++ [(⟨x, s⟩, .slice (some ⟨W.heap.size, 0, none⟩) s.size s.size)]) hr2 (by rw [flCells_app, List.length_append]; exact ho2) (fun y hy => by
        rcases List.mem_append.1 hy with q | q
        · exact (h1.byt y q).on (fun k e => hk2 k ((h1.byt y q).lt k e).2 (fun e2 => by
            obtain ⟨g, ev, _, hrg, _⟩ := h1.byt y q
            have : g = k := by rw [ev] at e; simpa [Value.ownBlock] using e
            subst this
            exact rows_apart h1.own hrg (by decide) e2))
        · have : y = (⟨x, s⟩, .slice (some ⟨W.heap.size, 0, none⟩) s.size s.size) := by simpa using q
          rw [this]
          exact hcb) (by rw [List.length_append]; show xs.length + 1 ≤ room; omega) (hg2.os.trans hb01.os) (hg2.tape.trans hb01.tape) (hg2.output.trans hb01.output) (by have := hg2.size; have := hb01.size; omega) (fun k hk _ hne => (hk2 k (by have := hb01.size; omega) hne).trans (hb01.block k hk)) (fun k e => (hn2 k e).imp_right (fun q => by have := hb01.size; omega)) (fun y hy => by
        rcases List.mem_append.1 hy with q | q
        · exact .inl q
        · have : y = (⟨x, s⟩, .slice (some ⟨W.heap.size, 0, none⟩) s.size s.size) := by simpa using q
          rw [this]
          exact .inr (fun k e => by have : W.heap.size = k := by simpa [Value.ownBlock] using e
                                    omega))
    exact ⟨fv', _, hR, hM⟩
  have HCP : Hid (∀ q, Calls Try.prog 42 #[.slice a s.size c] (w.drewN q).drew fun e w1 => e = .returned (.slice (some ⟨w.heap.size, 0, none⟩) s.size s.size) ∧ w1.cell? ⟨rb, 0, none⟩ = some fv ∧ (∀ o, (w1.alloc o).cell? ⟨rb, 0, none⟩ = some fv) ∧ ∃ a1 c1 w2, Hid ((Builtin.append_ #[94, 94] 94 #[fv, .slice (some ⟨w1.heap.size, 0, none⟩) 1 1]).run Try.prog (w1.alloc (.cells #[.int .i64 x, .slice (some ⟨w.heap.size, 0, none⟩) s.size s.size] 70)) = .ok (.slice a1 (xs.length + 1) c1) w2) ∧ w2.cell? ⟨rb, 0, none⟩ = some fv ∧ w2.frozen? ⟨rb, 0, none⟩ = false ∧
        Hid (∃ fv' v, RefIs (w2.setCell ⟨rb, 0, none⟩ (.slice a1 (xs.length + 1) c1)) B rb fv' (xs ++ [(⟨x, s⟩, v)]) room lost ∧ Mv (RFt rb fv xs) (RFt rb fv' (xs ++ [(⟨x, s⟩, v)])) w (w2.setCell ⟨rb, 0, none⟩ (.slice a1 (xs.length + 1) c1)))) := fun q =>
    (cpyS a c s (w.drewN q).drew hs hb).mono fun e w1 ⟨he, h1, h2, h3⟩ => ⟨he, HP.out (w.drewN q).drew w1 rfl ⟨rfl, rfl, rfl, Nat.le_refl _, fun _ _ => rfl⟩ h2 h1 h3⟩
  subst ev
  generalize s.size = S at *
  obtain ⟨n1, Hn1⟩ : ∃ n1, Hid (xs.length + 1 = n1) := ⟨_, rfl⟩
  rw [Hn1.out] at HCP
  generalize xs.length = n at *
  clear h hb HP hs hl hrm hB
  go_enter Try.func14, Try.ntmps14
  have k0 := c0 0
  have k1 := c1 0
  have k0 : w.cell? ⟨rb, 0, none⟩ = some (.slice va n vc) := k0
  have k1 : w.cell? ⟨rb, 1, none⟩ = some (.int .i64 (room : Nat)) := k1
  go_upto_region 1 with fail
  go_quiet (fail)
  go_upto_region 4 with fail
  have hc := HCP.out nq
  have kd := c0 nq
  have kdd : (w.drewN nq).drew.cell? ⟨rb, 0, none⟩ = some (.slice va n vc) := c0 nq
  generalize w.drewN nq = wq at *
  have HC2 : Hid (Calls Try.prog 42 #[.slice a S c] wq.drew fun e w1 => e = .returned (.slice (some ⟨w.heap.size, 0, none⟩) S S) ∧ w1.cell? ⟨rb, 0, none⟩ = some (.slice va n vc) ∧ (∀ o, (w1.alloc o).cell? ⟨rb, 0, none⟩ = some (.slice va n vc)) ∧ ∃ a1 c1 w2, Hid ((Builtin.append_ #[94, 94] 94 #[.slice va n vc, .slice (some ⟨w1.heap.size, 0, none⟩) 1 1]).run Try.prog (w1.alloc (.cells #[.int .i64 x, .slice (some ⟨w.heap.size, 0, none⟩) S S] 70)) = .ok (.slice a1 n1 c1) w2) ∧ w2.cell? ⟨rb, 0, none⟩ = some (.slice va n vc) ∧ w2.frozen? ⟨rb, 0, none⟩ = false ∧
        Hid (∃ fv' v, RefIs (w2.setCell ⟨rb, 0, none⟩ (.slice a1 n1 c1)) B rb fv' (xs ++ [(⟨x, s⟩, v)]) room lost ∧ Mv (RFt rb (.slice va n vc) xs) (RFt rb fv' (xs ++ [(⟨x, s⟩, v)])) w (w2.setCell ⟨rb, 0, none⟩ (.slice a1 n1 c1)))) := hc
  clear HCP c0 c1 hc
  go_region_law (first
    | (go_simp; go_at_call 42; refine HC2.out.mono ?_; rintro e w1 ⟨rfl, kc, kca, a1, c1, w2, HR, k2, f2, HE⟩)
    | (refine step_apps2 rfl _ _ 94 rfl _ _ _ (by rfl) (by rfl) HR.out ?_))
  all_goals
    go_wp2_with fail
    go_ret
    exact ⟨rfl, HE.out⟩
theorem rsend_full (h : RefIs w B rb fv xs room lost) (hl : ¬ xs.length < room) (hlo : lost ≤ 1000000) (x : Int) (v : Value) :
    Calls Try.prog 14 #[.pointer (some ⟨rb, 0, none⟩), .int .i64 x, v] w fun e w' => e = .returned (.bool false) ∧ RefIs w' B rb fv xs room (lost + 1) ∧ Mv (RFt rb fv xs) (RFt rb fv xs) w w' := by
  obtain ⟨va, vc, ev, hvc, hvm⟩ := h.sl
  have hrm := h.rm
  have hz : (room : Int) ≤ (xs.length : Int) := by omega
  have k0 := h.c0
  have k1 := h.c1
  obtain ⟨l1, hl1, Hl1⟩ : ∃ l1 : Nat, (lost : Int) + 1 = (l1 : Int) ∧ Hid (lost + 1 = l1) := ⟨lost + 1, by omega, rfl⟩
  have hwl : IntKind.u64.wrap (l1 : Int) = (l1 : Int) := by rw [IntKind.wrap_u64]; omega
  have HE : Hid (∀ q, (w.drewN q).cell? ⟨rb, 2, none⟩ = some (.int .u64 (lost : Nat)) ∧ (w.drewN q).frozen? ⟨rb, 2, none⟩ = false ∧ Hid (RefIs ((w.drewN q).setCell ⟨rb, 2, none⟩ (.int .u64 (l1 : Nat))) B rb fv xs room (lost + 1) ∧ Mv (RFt rb fv xs) (RFt rb fv xs) w ((w.drewN q).setCell ⟨rb, 2, none⟩ (.int .u64 (l1 : Nat))))) := fun q => by
    have hset : ∀ b, b ≠ rb → ((w.drewN q).setCell ⟨rb, 2, none⟩ (.int .u64 (l1 : Nat))).heap[b]? = w.heap[b]? := fun b hb => Below.heap_setCell _ _ _ _ hb
    have hr : (w.drewN q).rowIs rb 96 3 (refCell fv room lost) := h.row
    refine ⟨h.c2, hr.frozen 2, ⟨?_, rows_keep h.own (fun k e => hset k (fun e2 => h.nm (e2 ▸ e))), fun y hy => (h.byt y hy).on (fun k e => hset k (fun e2 => ?_)), h.lb, h.le, h.rm⟩, rfl, rfl, rfl, ?_, fun k _ hn => hset k (fun e => hn (.inl e)), fun k hf => .inl hf⟩
    · refine (hr.set 2 _).congr (fun i hi => ?_)
      match i, hi with
      | 0, _ => rfl
      | 1, _ => rfl
      | 2, _ => show _ = Value.int .u64 ((lost + 1 : Nat) : Int); rw [Hl1.out]; rfl
    · obtain ⟨g, ev, _, h2, _⟩ := h.byt y hy
      have : g = k := by rw [ev] at e; simpa [Value.ownBlock] using e
      subst this
      exact rowIs_apart h2 h.row (by decide) e2
    · simp [World.setCell]
  subst ev
  generalize xs.length = n at *
  clear h hl hrm
  go_enter Try.func14, Try.ntmps14
  go_upto_region 1 with fail
  go_quiet (fail)
  obtain ⟨x1, x2, HF⟩ := HE.out nq
  generalize w.drewN nq = wq at *
  clear HE
  go_wp2_with fail
  go_ret
  exact ⟨rfl, HF.out⟩

set_option maxHeartbeats 1600000 in
theorem twin_any (x : Int) (a : Option Addr) (c : Nat) (s : ByteArray) (w : World) (hs : s.size ≤ 140737488351232) (hb : Byt w a s.size (bx s)) :
    Calls Try.prog 51 #[.agg #[.int .i64 x, .slice a s.size c]] w fun e w' => ∃ g, e = .returned (.agg #[.int .i64 x, .slice (some ⟨g, 0, none⟩) s.size s.size]) ∧ w.heap.size ≤ g ∧ w'.rowIs g 5 s.size (fun j => .int .u8 (bx s j : Nat)) ∧ Below w.heap.size w w' := by
  obtain ⟨W1, HW1⟩ : ∃ W, Hid ((w.alloc (.cells #[.int .i64 x, .slice a s.size c] 70)).alloc flZ = W) := ⟨_, rfl⟩
  have hz1 : W1.heap.size = w.heap.size + 2 := by rw [← HW1.out]; simp
  have e1 : (w.alloc (.cells #[.int .i64 x, .slice a s.size c] 70)).heap.size = w.heap.size + 1 := by simp
  have hb1 : Below w.heap.size w W1 := by rw [← HW1.out]; exact ((Below.refl _ _).alloc (Nat.le_refl _) _).alloc (by simp) _
  have hr0 := row2_alloc w (.int .i64 x) (.slice a s.size c) 70
  have hr0' : W1.rowIs w.heap.size 70 2 (fun i => if i = 0 then .int .i64 x else .slice a s.size c) := hr0.of_block (by rw [← HW1.out]; exact Below.heap_alloc _ _ _ (by omega))
  have hr1 := flZ_row (w.alloc (.cells #[.int .i64 x, .slice a s.size c] 70))
  rw [HW1.out, e1] at hr1
  have b0 : W1.cell? ⟨w.heap.size, 0, none⟩ = some (.int .i64 x) := hr0'.cell (i := 0) (by decide)
  have b1 : W1.cell? ⟨w.heap.size, 1, none⟩ = some (.slice a s.size c) := hr0'.cell (i := 1) (by decide)
  have HCP : Hid (Calls Try.prog 42 #[.slice a s.size c] W1.drew fun e w2 => e = .returned (.slice (some ⟨w.heap.size + 2, 0, none⟩) s.size s.size) ∧ w2.cell? ⟨w.heap.size, 0, none⟩ = some (.int .i64 x) ∧ w2.cell? ⟨w.heap.size, 1, none⟩ = some (.slice a s.size c) ∧ w2.cell? ⟨w.heap.size + 1, 0, none⟩ = some (.int .i64 0) ∧ w2.cell? ⟨w.heap.size + 1, 1, none⟩ = some (.slice none 0 0) ∧ w2.frozen? ⟨w.heap.size + 1, 0, none⟩ = false ∧ w2.frozen? ⟨w.heap.size + 1, 1, none⟩ = false ∧
      ∃ W3, Hid ((w2.setCell ⟨w.heap.size + 1, 0, none⟩ (.int .i64 x)).setCell ⟨w.heap.size + 1, 1, none⟩ (.slice (some ⟨w.heap.size + 2, 0, none⟩) s.size s.size) = W3) ∧ Hid (W3.heap[w.heap.size + 1]? = some (.cells #[.int .i64 x, .slice (some ⟨w.heap.size + 2, 0, none⟩) s.size s.size] 70 (0, 0)) ∧ w.heap.size ≤ w.heap.size + 2 ∧ W3.rowIs (w.heap.size + 2) 5 s.size (fun j => .int .u8 (bx s j : Nat)) ∧ Below w.heap.size w W3)) := by
    refine (cpyS a c s W1.drew hs ((hb.on hb1).drewN 1)).mono fun e w2 ⟨he, h1, h2, h3⟩ => ?_
    have hz : W1.drew.heap.size = w.heap.size + 2 := hz1
    rw [hz] at he h1 h2 h3
    have hr2 := hr0'.of_block (h1.block w.heap.size (by omega))
    have hr3 := hr1.of_block (h1.block (w.heap.size + 1) (by omega))
    have hset : ∀ k, k ≠ w.heap.size + 1 → ((w2.setCell ⟨w.heap.size + 1, 0, none⟩ (.int .i64 x)).setCell ⟨w.heap.size + 1, 1, none⟩ (.slice (some ⟨w.heap.size + 2, 0, none⟩) s.size s.size)).heap[k]? = w2.heap[k]? := fun k hk => (Below.heap_setCell _ _ _ _ hk).trans (Below.heap_setCell _ _ _ _ hk)
    have hbw : Below w.heap.size w w2 := by
      have q : Below w.heap.size W1 w2 := ⟨h1.os, h1.tape, h1.output, by omega, fun k hk => h1.block k (by omega)⟩
      exact hb1.trans q
    refine ⟨he, hr2.cell (i := 0) (by decide), hr2.cell (i := 1) (by decide), hr3.cell (i := 0) (by decide), hr3.cell (i := 1) (by decide), hr3.frozen 0, hr3.frozen 1, _, rfl, row2_heap ((hr3.set 0 (.int .i64 x)).set 1 (.slice (some ⟨w.heap.size + 2, 0, none⟩) s.size s.size)), by omega, h3.of_block (hset _ (by omega)), (hbw.setCell (by simp) _).setCell (by simp) _⟩
  have hne : w.heap.size ≠ w.heap.size + 1 := by omega
  generalize s.size = S at *
  clear hb hb1 hr0 hr0' hr1 hz1 e1 hs
  unfold flZ at HW1
  go_enter Try.func51, Try.ntmps51
  go_upto_region 1 with fail
  rw [HW1.out]
  go_region_held3 (fun W => W.cell? ⟨w.heap.size, 0, none⟩ = some (.int .i64 x) ∧ W.cell? ⟨w.heap.size, 1, none⟩ = some (.slice a S c))
    (first | exact ⟨b0, b1⟩ | exact ⟨y0, y1⟩ | exact ⟨(set2_far _ _ _ _ _ _ _ _ hne).trans y0, (set2_far _ _ _ _ _ _ _ _ hne).trans y1⟩)
    (first
      | (go_at_call 42; with_reducible refine HCP.out.mono ?_; rintro e w2 ⟨rfl, y0, y1, q0, q1, z0, z1, W3, HW3, HE⟩))
  all_goals
    go_wp2
    rw [HW3.out]
    refine bodyPost_ret_by (results_cell_row rfl _ _ (w.heap.size + 1) 70 _ (0, 0) _ rfl HE.out.1 Try.underlying70 rfl infoFL) rfl ⟨_, rfl, HE.out.2⟩
end
end Go.Proofs.Ytgpmoakfbhcidaa
