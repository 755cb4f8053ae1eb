/- The walks of Shelf.Bytes and Same over lists of bytes. -/
import Derived.Test.YtgpmoakfbhcidaaYA5
namespace Go.Proofs.Ytgpmoakfbhcidaa
open Go.RowKit
set_option maxRecDepth 100000
set_option maxRecDepth 100000

set_option maxHeartbeats 3200000 in
theorem ShIs.bytes {w : World} {B xb T : Nat} {G : Nat → Prop} (h : ShIs w B xb T G) (hB : B ≤ w.heap.size) (hT : T ≤ 2000) (a : Option Addr) (n c : Nat) (y : Nat → Nat) (ho : OwnZ w B (.slice a n c) n y) (hfree : ∀ ad, a = some ad → ¬ G ad.block) (hmax : n ≤ 140737488351232) :
    Calls Try.prog 17 #[.pointer (some ⟨xb, 0, none⟩), .slice a n c] w fun e w' => e = .returned (.tuple #[]) ∧ ∃ G', ShIs w' B xb (T + 1) G' ∧ Mv (fun k => G k ∨ ∃ ad, a = some ad ∧ ad.block = k) G' w w' := by
  obtain ⟨sz, N, kv, ov, A, A', ln, C, C', X, h1, h2, h3⟩ := h
  have hsz : sz ≤ 1000000000000000000 := Nat.le_trans h2 (Nat.le_trans (Nat.mul_le_mul_right _ hT) (by decide))
  have hT1 : (T + 1) * 140737488355328 = T * 140737488355328 + 140737488355328 := Nat.succ_mul _ _
  obtain ⟨TT, hTT⟩ : ∃ TT, T * 140737488355328 = TT := ⟨_, rfl⟩
  rw [hTT] at h2 hT1
  obtain ⟨W1, HW1⟩ : ∃ W, Hid (w.setCell ⟨xb, 0, none⟩ (.int .i64 (sz + n + 50 : Nat)) = W) := ⟨_, rfl⟩
  have hh := shelfB_holds xb sz n kv ov w h1.row hsz (by omega)
  rw [HW1.out] at hh
  obtain ⟨g1, g2⟩ := h1.size (s := sz + n + 50) (by omega) HW1.out.symm
  have z1 := g2.size
  by_cases hold : sz + n + 50 ≤ 4194304
  · have hd : decide (sz + n + 50 ≤ 4194304) = true := decide_eq_true hold
    rw [hd] at hh
    have hxb : ∀ q, (Value.slice a n c).ownBlock = some q → q ≠ xb := fun q e e2 => ownZ_row_ne ho h1.row (by decide) (e2 ▸ e)
    have ho1 : OwnZ W1 B (.slice a n c) n y := ownZ_keep ho (fun q e => by rw [← HW1.out]; exact Below.heap_setCell _ _ _ _ (hxb q e))
    obtain ⟨ka, kc, w2, hrun, p1, p2, hall⟩ := g1.push (Nat.le_trans hB z1) a n c y ho1 (fun ad e hf => hfree ad e ((h3 _).2 hf)) (by have := h1.cnt; omega) hold (by omega)
    obtain ⟨va, vc, rfl, _⟩ := owns_form g1.lst
    obtain ⟨vo, vco, rfl, _⟩ := owns_form g1.olst
    have x3 : W1.cell? ⟨xb, 3, none⟩ = some (.slice va N vc) := g1.row.cell (i := 3) (by decide)
    obtain ⟨W3, HW3⟩ : ∃ W, Hid (w2.setCell ⟨xb, 3, none⟩ (.slice ka (N + 1) kc) = W) := ⟨_, rfl⟩
    obtain ⟨x4, hcp⟩ := hall W3 HW3.out.symm
    have HE : Hid (∀ (g : Nat) (w5 : World) (oa : Option Addr) (oc : Nat), Hid (∀ w6 : World, w6 = w5.setCell ⟨xb, 4, none⟩ (.slice oa (N + 1) oc) → ShB w6 B xb (sz + n + 50) (N + 1) (.slice ka (N + 1) kc) (.slice oa (N + 1) oc) (put A N a) (put A' N (some ⟨g, 0, none⟩)) (put ln N n) (put C N c) (put C' N n) (put X N y) ∧ Mv (fun k => HFt xb N (.slice va N vc) (.slice vo N vco) A A' k ∨ ∃ ad, a = some ad ∧ ad.block = k) (HFt xb (N + 1) (.slice ka (N + 1) kc) (.slice oa (N + 1) oc) (put A N a) (put A' N (some ⟨g, 0, none⟩))) W1 w6) →
        ∃ G', ShIs (w5.setCell ⟨xb, 4, none⟩ (.slice oa (N + 1) oc)) B xb (T + 1) G' ∧ Mv (fun k => G k ∨ ∃ ad, a = some ad ∧ ad.block = k) G' w (w5.setCell ⟨xb, 4, none⟩ (.slice oa (N + 1) oc))) := fun g w5 oa oc hq => by
      obtain ⟨q1, q2⟩ := hq.out _ rfl
      refine ⟨_, ⟨_, _, _, _, _, _, _, _, _, _, q1, by rw [hT1]; omega, fun _ => Iff.rfl⟩, q2.os.trans g2.os, q2.tape.trans g2.tape, q2.output.trans g2.output, Nat.le_trans z1 q2.size, fun q hq hn => ?_, fun q hf => ?_⟩
      · exact (q2.block q (by omega) (fun e => hn (e.imp_left (fun e => (h3 q).2 e)))).trans (g2.block q hq (fun e => hn (.inl ((h3 q).2 e))))
      · rcases q2.foot q hf with e | e
        · exact .inl (e.imp_left (fun e => (h3 q).2 e))
        · exact .inr (by omega)
    have HR := hide hrun
    have HCP := hide hcp
    have x4d : W3.drew.cell? ⟨xb, 4, none⟩ = some (.slice vo N vco) := x4
    clear hrun hcp hall h1 h2 h3 g1 g2 ho ho1 hfree hxb hd
    go_enter Try.func17, Try.ntmps17
    go_wp2_with fail
    refine hh.mono ?_
    rintro e w1' ⟨rfl, rfl⟩
    go_upto_region 2 with (at_builtin; refine wpList_append_eq rfl _ _ 30 rfl _ _ _ (by rfl) (by rfl) (unhide HR) ?_)
    rw [HW3.out]
    go_region_law (first
      | (go_simp; go_at_call 42; refine ((unhide HCP) _ (by first | exact Below.refl _ _ | exact (Below.refl _ _).drew)).mono ?_; rintro e w4 ⟨g, rfl, y4, oa, oc, w5, hr5, y5, f5, HQ⟩; have HF := HE.out g w5 oa oc HQ; clear HQ; have y4a : ∀ o, (w4.alloc o).cell? ⟨xb, 4, none⟩ = some (.slice vo N vco) := fun o => by rw [World.cell?_alloc_some _ _ _ (by rw [y4]; rfl)]; exact y4)
      | (refine step_apps2 (by rfl) _ _ 30 (by rfl) _ _ _ (by rfl) (by rfl) hr5 ?_))
    all_goals
      go_wp2_with fail
      go_end0
      exact ⟨rfl, HF⟩
  · have hd : decide (sz + n + 50 ≤ 4194304) = false := decide_eq_false hold
    rw [hd] at hh
    have HE : Hid (∃ G', ShIs W1 B xb (T + 1) G' ∧ Mv (fun k => G k ∨ ∃ ad, a = some ad ∧ ad.block = k) G' w W1) :=
      ⟨G, ⟨_, _, _, _, _, _, _, _, _, _, g1, by rw [hT1]; omega, h3⟩, g2.os, g2.tape, g2.output, z1, fun q hq hn => g2.block q hq (fun e => hn (.inl ((h3 q).2 e))), fun q hf => .inl (.inl hf)⟩
    clear g1 g2 h1 h2 h3
    go_enter Try.func17, Try.ntmps17
    go_wp2_with fail
    refine hh.mono ?_
    rintro e w1' ⟨rfl, rfl⟩
    go_wp2_with fail
    go_end0
    exact ⟨rfl, HE.out⟩
end Go.Proofs.Ytgpmoakfbhcidaa
