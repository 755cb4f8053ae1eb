/- held: the other nets, the end. -/
import Derived.Test.YtgpmoakfbhcidaaYB3
import Derived.Test.YtgpmoakfbhcidaaYA8
namespace Go.Proofs.Ytgpmoakfbhcidaa
open Go.RowKit
set_option maxRecDepth 100000
set_option maxRecDepth 100000

theorem NetIs.lower {w : World} {B B' nb room lost : Nat} {mv : Value} {ms : List Ms} (h : NetIs w B nb mv room ms lost) (hb : B' ≤ B) : NetIs w B' nb mv room ms lost :=
  ⟨h.row, ⟨h.own.1, h.own.2.imp_right (fun ⟨g, cap, cur, e, hb', r⟩ => ⟨g, cap, cur, e, Nat.le_trans hb hb', r⟩)⟩, Nat.le_trans hb h.lb, h.le, h.rm⟩
section
variable {W0 w w' : World} {sb bk xb pb L T lo m : Nat} {ov : Value} {P : Nat → Option PM} {nv vv : Nat → Value} {F : Nat → Nat → Prop} {fam : Nat → Nat → Prop}
/-- One net more, with a message of its own. -/
theorem HdX.other (h : HdX W0 w sb bk xb pb L T 0 m ov) (hm : m ≤ 200) :
    Calls Try.prog 18 #[.int .i64 1] w fun e w1 => ∃ nb, e = .returned (.tuple #[.pointer (some ⟨nb, 0, none⟩), .int .i64 0]) ∧
      Hid (Calls Try.prog 12 #[.pointer (some ⟨nb, 0, none⟩), .int .i64 (m : Nat), .slice (some ⟨w1.heap.size, 0, none⟩) 2 2] (w1.alloc (.cells #[.int .u8 (m : Nat), .int .u8 111] 5)) fun e w2 => e = .returned (.bool true) ∧
        ∃ oa oc w3, (Builtin.append_ #[65, 65] 65 #[ov, .slice (some ⟨w2.heap.size, 0, none⟩) 1 1]).run Try.prog (w2.alloc (.cells #[.pointer (some ⟨nb, 0, none⟩)] 45)) = .ok (.slice oa (m + 1) oc) w3 ∧ Hid (HdX W0 w3 sb bk xb pb L T 0 (m + 1) (.slice oa (m + 1) oc))) := by
  obtain ⟨P, nv, vv, F, fam, h⟩ := h
  refine (new_any 1 (by decide) (by decide) w).mono fun e w1 ⟨he, hN1, hb1, hz1⟩ => ⟨w.heap.size, he, ?_⟩
  obtain ⟨Wb, hWb⟩ : ∃ W, w1.alloc (.cells #[.int .u8 (m : Nat), .int .u8 111] 5) = W := ⟨_, rfl⟩
  have hbb : Below w1.heap.size w1 Wb := by rw [← hWb]; exact (Below.refl _ _).alloc (Nat.le_refl _) _
  have hby : Byt Wb (some ⟨w1.heap.size, 0, none⟩) 2 (oth m) := fun j hj => ⟨w1.heap.size, 0, rfl, by
    rw [← hWb]
    match j, hj with
    | 0, _ => exact World.cell?_alloc_at (w := w1) _ _ _ 0 rfl
    | 1, _ => exact World.cell?_alloc_at (w := w1) _ _ _ 1 rfl⟩
  rw [hWb]
  have hNb := hN1.on hbb
  have zb := hbb.size
  have hs := send_some hNb (by omega) (by decide) (m : Int) (some ⟨w1.heap.size, 0, none⟩) 2 2 (oth m) hby (fun e => by cases e)
  refine hs.mono fun e w2 ⟨he2, mv', hN2, hM2⟩ => ⟨he2, ?_⟩
  have hbw : Below w.heap.size w Wb := hb1.trans (hbb.mono (by omega))
  have hb2 : Below w.heap.size w w2 := hM2.below hbw hbw.size (fun q hq => (hNb.ge q hq).1)
  have h2 := h.on hb2
  have hge : ∀ q, NFt w.heap.size mv' q → w.heap.size ≤ q := fun q hq => (hN2.ge q hq).1
  obtain ⟨oa, oc, w3, hrun, G', ho3, hM3⟩ := h2.ot.push h2.below.size (by omega) w.heap.size mv' (hN2.lower h.below.size) (fun q hq hf => by have := hge q hq; have := (h.ge 3 q (by decide) hf).2; omega)
  refine ⟨oa, oc, w3, hrun, ?_⟩
  have z2 := hb2.size
  have z3 := hM3.size
  have hM : Mv (fam 3) G' w w3 := ⟨hM3.os.trans hb2.os, hM3.tape.trans hb2.tape, hM3.output.trans hb2.output, by omega, fun q hq hn => (hM3.block q (by omega) (fun e => by
    rcases e with e | e
    · exact hn e
    · have := hge q e; omega)).trans (hb2.block q hq), fun q hf => by
    rcases hM3.foot q hf with (e | e) | e
    · exact .inl e
    · exact .inr (hge q e)
    · exact .inr (by omega)⟩
  exact (h.nets ho3 hM).x
/-- The first of the other nets is emptied. -/
theorem HdX.take (h : HdX W0 w sb bk xb pb L T lo m ov) (hlo : lo < m) (hm : m ≤ 200) : ∃ b oa oc, ov = .slice (some ⟨oa, 0, none⟩) m oc ∧ w.cell? ⟨oa, lo, none⟩ = some (.pointer (some ⟨b, 0, none⟩)) ∧
    Hid (Calls Try.prog 20 #[.pointer (some ⟨b, 0, none⟩), .int .i64 0] w fun e w' => ∃ g c, e = .returned (.tuple #[.agg #[.int .i64 (lo : Nat), .slice (some ⟨g, 0, none⟩) 2 c], .bool true]) ∧
      Hid (∀ W, Below w'.heap.size w' W → Calls Try.prog 21 #[.agg #[.int .i64 (lo : Nat), .slice (some ⟨g, 0, none⟩) 2 c], .agg #[.int .i64 (lo : Nat), .slice (some ⟨W.heap.size, 0, none⟩) 2 2]] (W.alloc (.cells #[.int .u8 (lo : Nat), .int .u8 111] 5)) fun e w2 => e = .returned (.bool true) ∧ HdX W0 w2 sb bk xb pb L T (lo + 1) m ov)) := by
  obtain ⟨P, nv, vv, F, fam, h⟩ := h
  obtain ⟨b, ⟨oa, oc, e, hc⟩, ht⟩ := h.ot.take hlo hm
  refine ⟨b, oa, oc, e, hc, ht.mono fun e w' ⟨g, c, he, hB, G', ho, hM⟩ => ⟨g, c, he, fun W hW => ?_⟩⟩
  have hby : Byt (W.alloc (.cells #[.int .u8 (lo : Nat), .int .u8 111] 5)) (some ⟨W.heap.size, 0, none⟩) 2 (oth lo) := fun j hj => ⟨W.heap.size, 0, rfl, by
    match j, hj with
    | 0, _ => exact World.cell?_alloc_at (w := W) _ _ _ 0 rfl
    | 1, _ => exact World.cell?_alloc_at (w := W) _ _ _ 1 rfl⟩
  have hb : Below w'.heap.size w' (W.alloc (.cells #[.int .u8 (lo : Nat), .int .u8 111] 5)) := hW.trans (((Below.refl _ _).alloc (Nat.le_refl _) _).mono hW.size)
  generalize W.alloc (.cells #[.int .u8 (lo : Nat), .int .u8 111] 5) = Wa at *
  refine (same_any (lo : Int) _ _ 2 c 2 (oth lo) Wa (hB.on hb) hby (by decide)).mono fun e w2 ⟨he2, hb2⟩ => ⟨he2, ((h.nets ho hM).on (hb.trans (hb2.mono hb.size))).x⟩
/-- The end. -/
theorem HdX.given (h : HdX W0 w sb bk xb pb L T lo m ov) :
    Calls Try.prog 22 #[.pointer (some ⟨xb, 0, none⟩)] w fun e w' => e = .returned (.bool true) ∧
      Hid (Calls Try.prog 9 #[.pointer (some ⟨sb, 0, none⟩), .int .i64 0] w' fun e w2 => e = .returned (.bool true) ∧
        Hid (Calls Try.prog 9 #[.pointer (some ⟨sb, 0, none⟩), .int .i64 1] w2 fun e w3 => e = .returned (.bool true) ∧ Below W0.heap.size W0 w3)) := by
  obtain ⟨P, nv, vv, F, fam, h⟩ := h
  refine (h.sh.given h.below.size).mono fun e w' ⟨he, hk⟩ => ⟨he, ?_⟩
  have h1 : StIs w' W0.heap.size sb bk false P nv vv F := h.st.later (fun q hq => hk.block q (h.st.ge q hq).2 (fun e => h.dis 0 1 q (by decide) (by decide) (by decide) ((h.f0 q).2 hq) e))
  have hb' : Below W0.heap.size W0 w' := h.below.trans ⟨hk.os, hk.tape, hk.output, hk.size, fun q hq => hk.block q (Nat.lt_of_lt_of_le hq h.below.size) (fun e => by have := (h.ge 1 q (by decide) e).1; omega)⟩
  refine (all_any h1 0 (by decide)).mono fun e w2 ⟨he2, hb2⟩ => ⟨he2, ?_⟩
  refine (all_any (h1.on hb2) 1 (by decide)).mono fun e w3 ⟨he3, hb3⟩ => ⟨he3, ?_⟩
  exact (hb'.trans (hb2.mono hb'.size)).trans (hb3.mono (Nat.le_trans hb'.size hb2.size))
end
/-- What the loop's rounds meet. -/
structure Bdy (W0 wx : World) (sb bk xb pb L T m ob : Nat) (ov : Value) (o : NOp) : Prop where
  x : HdX W0 wx sb bk xb pb L T 0 m ov
  op : wx.rowIs ob 55 5 (fun i => (#[Value.int .i64 o.dd, .int .i64 o.wh, .int .i64 o.at', .int .i64 o.to', .slice o.ba o.bl o.bc])[i]!)
end Go.Proofs.Ytgpmoakfbhcidaa
