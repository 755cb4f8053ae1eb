/- The law NetFresh. -/
import Derived.Test.YtgpmoakfbhcidaaYB6
import Derived.Test.YtgpmoakfbhcidaaX13
namespace Go.Proofs.Ytgpmoakfbhcidaa
open Go.RowKit
set_option maxRecDepth 100000
set_option maxRecDepth 100000
set_option maxHeartbeats 1600000 in
theorem fresh_law (r0 r1 : Int) (oa : Option Addr) (oc : Nat) (L : List NOp) (w : World) (hO : NOpsIn w oa L) (hK : ∀ o ∈ L, o.ok w) :
    Calls Try.prog 3 #[.agg #[.int .i64 r0, .int .i64 r1, .slice oa L.length oc]] w fun e w' => e = .returned (.bool true) ∧ Below w.heap.size w w' := by
  obtain ⟨W0, HW0⟩ : ∃ W, Hid (w.alloc (.cells #[.int .i64 r0, .int .i64 r1, .slice oa L.length oc] 25) = W) := ⟨_, rfl⟩
  have hb0 : Below w.heap.size w W0 := by rw [← HW0.out]; exact (Below.refl _ _).alloc (Nat.le_refl _) _
  have hr0 := row3_alloc w (.int .i64 r0) (.int .i64 r1) (.slice oa L.length oc) 25
  rw [HW0.out] at hr0
  have c0 : W0.cell? ⟨w.heap.size, 0, none⟩ = some (.int .i64 r0) := hr0.cell (i := 0) (by decide)
  have c1 : W0.cell? ⟨w.heap.size, 1, none⟩ = some (.int .i64 r1) := hr0.cell (i := 1) (by decide)
  have c2 : W0.cell? ⟨w.heap.size, 2, none⟩ = some (.slice oa L.length oc) := hr0.cell (i := 2) (by decide)
  have hp : Calls Try.prog 4 #[.agg #[.int .i64 r0, .int .i64 r1, .slice oa L.length oc], .bool true] W0 fun e w' => e = .returned (.bool true) ∧ (w'.cell? ⟨w.heap.size, 0, none⟩ = some (.int .i64 r0) ∧ w'.cell? ⟨w.heap.size, 1, none⟩ = some (.int .i64 r1) ∧ w'.cell? ⟨w.heap.size, 2, none⟩ = some (.slice oa L.length oc)) ∧
      Hid (Calls Try.prog 5 #[.agg #[.int .i64 r0, .int .i64 r1, .slice oa L.length oc]] w' fun e w2 => e = .returned (.bool true) ∧ Below w.heap.size w w2) :=
    (play_true r0 r1 oa oc L W0 (hO.on hb0) (fun o ho => (hK o ho).on hb0)).mono fun e w' ⟨he, hb⟩ => by
      have hbw : Below w.heap.size w w' := hb0.trans (hb.mono hb0.size)
      exact ⟨he, ⟨cel_on hb c0, cel_on hb c1, cel_on hb c2⟩, (held_any r0 r1 oa oc L w' (hO.on hbw) (fun o ho => (hK o ho).on hbw)).mono fun e w2 ⟨he2, hb2⟩ => ⟨he2, hbw.trans (hb2.mono hbw.size)⟩⟩
  generalize L.length = N at *
  clear hO hK hb0 hr0
  go_enter Try.func3, Try.ntmps3
  go_upto_region 1 with fail
  rw [HW0.out]
  go_wp2_with fail
  refine hp.mono ?_
  rintro e w1 ⟨rfl, ⟨d0, d1, d2⟩, HH⟩
  clear hp c0 c1 c2
  go_wp2_with fail
  refine HH.out.mono ?_
  rintro e w2 ⟨rfl, hb2⟩
  have HB := hide hb2
  clear HH hb2 d0 d1 d2
  go_wp2_with fail
  go_ret
  exact ⟨rfl, unhide HB⟩
end Go.Proofs.Ytgpmoakfbhcidaa
