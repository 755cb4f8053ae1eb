/- Send of what lies at the Place, with the cells that are kept. -/
import Derived.Test.YtgpmoakfbhcidaaYB5
namespace Go.Proofs.Ytgpmoakfbhcidaa
open Go.RowKit
set_option maxRecDepth 100000
set_option maxRecDepth 100000
section
variable {W0 w w' : World} {sb bk xb pb L T lo m : Nat} {ov : Value} {P : Nat → Option PM} {nv vv : Nat → Value} {F : Nat → Nat → Prop} {fam : Nat → Nat → Prop}
theorem HdS.send3 (h : HdS W0 w sb bk xb pb L T lo m ov P nv vv F fam) {k : Nat} (hk : k < 2) (hl1 : L ≤ 1000) {mm : PM} (hP : P k = some mm) (o : NOp) (ho : o.ok W0) :
    ∃ nb rb, nv k = .pointer (some ⟨nb, 0, none⟩) ∧ vv k = .pointer (some ⟨rb, 0, none⟩) ∧ ∀ W, Below w.heap.size w W → W.cell? ⟨sb, k, none⟩ = some (.pointer (some ⟨nb, 0, none⟩)) ∧ W.cell? ⟨sb, 2 + k, none⟩ = some (.pointer (some ⟨rb, 0, none⟩)) ∧
      Hid (Calls Try.prog 13 #[.pointer (some ⟨pb, 0, none⟩), .slice o.ba o.bl o.bc] W fun e w1 => ∃ a' c', e = .returned (.slice a' o.bl c') ∧ w1.cell? ⟨sb, k, none⟩ = some (.pointer (some ⟨nb, 0, none⟩)) ∧ w1.cell? ⟨sb, 2 + k, none⟩ = some (.pointer (some ⟨rb, 0, none⟩)) ∧ Kn W w1 ∧
        Hid (Calls Try.prog 12 #[.pointer (some ⟨nb, 0, none⟩), .int .i64 o.to', .slice a' o.bl c'] w1 fun e w2 => ∃ ok : Bool, e = .returned (.bool ok) ∧ w2.cell? ⟨sb, k, none⟩ = some (.pointer (some ⟨nb, 0, none⟩)) ∧ w2.cell? ⟨sb, 2 + k, none⟩ = some (.pointer (some ⟨rb, 0, none⟩)) ∧ Kn W w2 ∧
          Hid (Calls Try.prog 14 #[.pointer (some ⟨rb, 0, none⟩), .int .i64 o.to', .slice o.ba o.bl o.bc] w2 fun e w3 => e = .returned (.bool ok) ∧ w3.cell? ⟨sb, k, none⟩ = some (.pointer (some ⟨nb, 0, none⟩)) ∧ w3.cell? ⟨sb, 2 + k, none⟩ = some (.pointer (some ⟨rb, 0, none⟩)) ∧ HdX W0 w3 sb bk xb pb (L + 1) T lo m ov ∧ Kn W w3))) := by
  obtain ⟨nb, rb, en, ev, _⟩ := h.st.count hk hP
  refine ⟨nb, rb, en, ev, fun W hW => ?_⟩
  have hWS := h.on hW
  refine ⟨by rw [← en]; exact hWS.st.cn hk, by rw [← ev]; exact hWS.st.cv hk, ?_⟩
  obtain ⟨hb1, hb2, hb3, hb4⟩ := ho
  refine (hWS.pl.bytes hWS.below.size o.ba o.bl o.bc o.y (hb1.on hWS.below) hb2 hb3).mono fun e w1 ⟨a', c', he, hB1, hn1, G', hp1, hM1⟩ => ?_
  have h1 := hWS.place hp1 hM1
  have hk1 : Kn W w1 := fun b n f hr => hr.of_block (hM1.block b hr.lt (hWS.not hr 2 (by decide)))
  refine ⟨a', c', he, by rw [← en]; exact h1.st.cn hk, by rw [← ev]; exact h1.st.cv hk, hk1, ?_⟩
  obtain ⟨nb', rb', en', ev', hs⟩ := h1.st.send2 h1.below.size hk h1.ls hl1 hP
  obtain rfl : nb = nb' := by rw [en] at en'; simpa using en'
  obtain rfl : rb = rb' := by rw [ev] at ev'; simpa using ev'
  have hbb : ∀ q, o.ba = some q → 0 < o.bl → ¬ SFt sb F q.block := fun q e hq hf => by
    have := (h1.st.ge _ hf).1
    obtain ⟨b, off, e2, hc⟩ := hb1 0 hq
    have hlt : b < W0.heap.size := World.block_lt_of_cell? _ _ hc
    rw [e2] at e
    rw [← Option.some.inj e] at this
    have : W0.heap.size ≤ b := this
    omega
  refine (hs o.to' a' o.ba o.bl c' o.bc o.y hb3 hB1 hn1 (hb1.on h1.below) hbb hb4).mono fun e w2 ⟨ok, he2, ⟨Gq, hM2⟩, hsb, hr⟩ => ⟨ok, he2, ?_, ?_, ?_, hr.out.mono fun e w3 ⟨he3, hw3⟩ => ⟨he3, ?_⟩⟩
  · rw [← en, World.cell?_of_block (w := w1) (a := ⟨sb, k, none⟩) hsb]
    exact h1.st.cn hk
  · rw [← ev, World.cell?_of_block (w := w1) (a := ⟨sb, 2 + k, none⟩) hsb]
    exact h1.st.cv hk
  · exact hk1.trans (fun b n f hr => hr.of_block (hM2.block b hr.lt (fun e => h1.not hr 0 (by decide) ((h1.f0 b).2 e))))
  · obtain ⟨P', F', s1, s2, s3, s4⟩ := hw3.is
    exact ⟨by rw [← en]; exact s1.cn hk, by rw [← ev]; exact s1.cv hk, (h1.stage s1 s3 s2).x, hk1.trans (fun b n f hr => hr.of_block (s2.block b hr.lt (fun e => h1.not hr 0 (by decide) ((h1.f0 b).2 e))))⟩
end
end Go.Proofs.Ytgpmoakfbhcidaa
