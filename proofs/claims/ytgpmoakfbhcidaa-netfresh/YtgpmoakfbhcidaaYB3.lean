/- held: its calls. -/
import Derived.Test.YtgpmoakfbhcidaaYB2
namespace Go.Proofs.Ytgpmoakfbhcidaa
open Go.RowKit
set_option maxRecDepth 100000
set_option maxRecDepth 100000

/-- Each call of the script stays as it is. -/
def Kn (w w' : World) : Prop := ∀ (b n : Nat) (f : Nat → Value), w.rowIs b 55 n f → w'.rowIs b 55 n f
theorem Kn.trans {a b c : World} (h : Kn a b) (k : Kn b c) : Kn a c := fun q n f hr => k q n f (h q n f hr)
theorem Kn.below {w w' : World} (hb : Below w.heap.size w w') : Kn w w' := fun b _ _ hr => hr.of_block (hb.block b hr.lt)
section
variable {w : World} {B sb bk k L : Nat} {mark : Bool} {P : Nat → Option PM} {nv vv : Nat → Value} {F : Nat → Nat → Prop} {m : PM}
theorem StIs.send2 (h : StIs w B sb bk mark P nv vv F) (hB : B ≤ w.heap.size) (hk : k < 2) (hL : LostLe P L) (hl1 : L ≤ 1000) (hP : P k = some m) :
    ∃ nb rb, nv k = .pointer (some ⟨nb, 0, none⟩) ∧ vv k = .pointer (some ⟨rb, 0, none⟩) ∧ ∀ (x : Int) (a b : Option Addr) (n c d : Nat) (y : Nat → Nat), n ≤ 140737488351232 → Byt w a n y → (a = none → n = 0) → Byt w b n y → (∀ q, b = some q → 0 < n → ¬ SFt sb F q.block) → (∀ j, j < n → y j < 256) →
      Calls Try.prog 12 #[.pointer (some ⟨nb, 0, none⟩), .int .i64 x, .slice a n c] w fun e w1 => ∃ ok : Bool, e = .returned (.bool ok) ∧ (∃ G, Mv (SFt sb F) G w w1) ∧ w1.heap[sb]? = w.heap[sb]? ∧
        Hid (Calls Try.prog 14 #[.pointer (some ⟨rb, 0, none⟩), .int .i64 x, .slice b n d] w1 fun e w2 => e = .returned (.bool ok) ∧ Went B sb bk mark k (L + 1) nv vv F w w2) := by
  have hp := h.pair k hk
  rw [hP] at hp
  obtain ⟨nb, mv, rb, fv, xs, en, ev, hN, hR, hx, hF⟩ := hp.go
  refine ⟨nb, rb, en, ev, fun x a b n c d y hn ha hna hb hbs hy => ?_⟩
  have hlo := hL k m hk hP
  have hxl := fst_len hx
  have hmv : ∀ {mv' : Value} {w1 : World}, Mv (NFt nb mv) (NFt nb mv') w w1 → Mv (SFt sb F) (NFt nb mv') w w1 := fun q => ⟨q.os, q.tape, q.output, q.size, fun i hi hnn => q.block i hi (fun e => hnn (.inr ⟨k, hk, (hF i).2 (.inl e)⟩)), fun i hi => (q.foot i hi).imp_left (fun e => .inr ⟨k, hk, (hF i).2 (.inl e)⟩)⟩
  have hRn : ∀ {mv' : Value} {w1 : World}, Mv (NFt nb mv) (NFt nb mv') w w1 → RefIs w1 B rb fv xs m.room m.lost := fun hM => hR.later (fun q hq => hM.block q (hR.ge q hq).2 (fun e => net_ref hN hR q e hq))
  by_cases hl : m.ms.length < m.room
  · refine (send_some hN hB hl x a n c y ha hna).mono fun e w1 ⟨he, mv', hN1, hM1⟩ => ⟨true, he, ⟨_, hmv hM1⟩, hM1.block sb h.row.lt (hN.not h.row (by decide) (by decide)), ?_⟩
    have hb1 : Byt w1 b n y := fun j hj => by
      obtain ⟨q, off, e, hc⟩ := hb j hj
      exact ⟨q, off, e, by rw [World.cell?_of_block (w := w) (a := ⟨q, off + j, none⟩) ((hmv hM1).block q (World.block_lt_of_cell? _ _ hc) (hbs _ e (by omega)))]; exact hc⟩
    have hs := rsend_some (hRn hM1) (Nat.le_trans hB hM1.size) (by omega) x b d (strOf n y) (by rw [strOf_size]; exact hn) (bx_bytes hb1 hy)
    rw [strOf_size] at hs
    refine hs.mono fun e w2 ⟨he2, fv', v, hR2, hM2⟩ => ⟨he2, ?_⟩
    exact h.went hk hL (Nat.le_succ L) en ev hN hF hR hN1 hM1 (Below.refl _ _) hR2 hM2 (by rw [List.map_append, hx]; rfl) (by omega)
  · refine (send_full hN hl (by omega) x (.slice a n c)).mono fun e w1 ⟨he, hN1, hM1⟩ => ⟨false, he, ⟨_, hmv hM1⟩, hM1.block sb h.row.lt (hN.not h.row (by decide) (by decide)), ?_⟩
    refine (rsend_full (hRn hM1) (by omega) (by omega) x (.slice b n d)).mono fun e w2 ⟨he2, hR2, hM2⟩ => ⟨he2, ?_⟩
    exact h.went hk hL (Nat.le_succ L) en ev hN hF hR hN1 hM1 (Below.refl _ _) hR2 hM2 hx (by omega)
end
section
variable {W0 w w' : World} {sb bk xb pb L T lo m : Nat} {ov : Value} {P : Nat → Option PM} {nv vv : Nat → Value} {F : Nat → Nat → Prop} {fam : Nat → Nat → Prop}
theorem HdS.not (h : HdS W0 w sb bk xb pb L T lo m ov P nv vv F fam) {b n : Nat} {f : Nat → Value} (hr : w.rowIs b 55 n f) : ∀ i, i < 4 → ¬ fam i b := fun i hi hf => by
  match i, hi with
  | 0, _ =>
    rcases (h.f0 b).1 hf with e | ⟨k, hk, e⟩
    · exact rowIs_apart hr h.st.row (by decide) e
    · exact (h.st.pair k hk).not hr (by decide) (by decide) (by decide) (by decide) (by decide) e
  | 1, _ =>
    obtain ⟨sz, N, kv, ov, A, A', ln, C, C', X, h1, h2, h3⟩ := h.sh
    rcases (h3 b).1 hf with e | e | e | ⟨i, a, hi, ha, e⟩ | ⟨i, a, hi, ha, e⟩
    · exact rowIs_apart hr h1.row (by decide) e
    · exact rows_apart h1.lst hr (by decide) e
    · exact rows_apart h1.olst hr (by decide) e
    · exact ownZ_row_ne (h1.fam.own i hi) hr (by decide) ((sl_block _ _ _ _ _).2 ⟨a, ha, e⟩)
    · obtain ⟨g, e2, hg, hr2⟩ := h1.was i hi
      rw [e2] at ha
      refine rowIs_apart hr hr2 (by decide) ?_
      rw [← e, ← Option.some.inj ha]
  | 2, _ =>
    obtain ⟨v, n, x, h1, h2, h3, h4⟩ := h.pl
    rcases (h4 b).1 hf with e | e
    · exact rowIs_apart hr h1 (by decide) e
    · exact rows_apart h2 hr (by decide) e
  | 3, _ =>
    obtain ⟨nb, mv, h1, h2, h3, h4⟩ := h.ot
    rcases (h4 b).1 hf with e | ⟨i, hi, hm, e⟩
    · exact rows_apart h1 hr (by decide) e
    · exact (h2 i hi hm).not hr (by decide) (by decide) e
/-- plays, on the whole state. -/
theorem HdX.playsK (h : HdX W0 w sb bk xb pb L T lo m ov) (hl1 : L ≤ 1000) (o : NOp) (ho : o.ok W0) :
    Calls Try.prog 7 #[.pointer (some ⟨sb, 0, none⟩), .agg #[.int .i64 o.dd, .int .i64 o.wh, .int .i64 o.at', .int .i64 o.to', .slice o.ba o.bl o.bc]] w fun e w' => e = .returned (.bool true) ∧ HdX W0 w' sb bk xb pb (L + 1) T lo m ov ∧ Kn w w' := by
  obtain ⟨P, nv, vv, F, fam, h⟩ := h
  exact (plays_any h.st h.below h.ls hl1 o.dd o.wh o.at' o.to' o.ba o.bl o.bc o.y ho.1 ho.2.1 ho.2.2.1 ho.2.2.2).mono fun e w' ⟨he, P', nv', vv', F', h1, h2, h3⟩ => ⟨he, (h.stage h1 h3 h2).x, fun b n f hr => hr.of_block (h2.block b hr.lt (fun e => h.not hr 0 (by decide) ((h.f0 b).2 e)))⟩
/-- What is new since, and a row of the script's call. -/
def Mid (w W w1 : World) : Prop := ∀ q, w.heap.size ≤ q → q < W.heap.size → w1.heap[q]? = W.heap[q]?
/-- What is sent lies at the Place. -/
theorem HdS.send (h : HdS W0 w sb bk xb pb L T lo m ov P nv vv F fam) {k : Nat} (hk : k < 2) (hl1 : L ≤ 1000) {mm : PM} (hP : P k = some mm) (o : NOp) (ho : o.ok W0) :
    ∃ nb rb, nv k = .pointer (some ⟨nb, 0, none⟩) ∧ vv k = .pointer (some ⟨rb, 0, none⟩) ∧ ∀ W, Below w.heap.size w W → W.cell? ⟨sb, k, none⟩ = some (.pointer (some ⟨nb, 0, none⟩)) ∧ W.cell? ⟨sb, 2 + k, none⟩ = some (.pointer (some ⟨rb, 0, none⟩)) ∧
      Hid (Calls Try.prog 13 #[.pointer (some ⟨pb, 0, none⟩), .slice o.ba o.bl o.bc] W fun e w1 => ∃ a' c', e = .returned (.slice a' o.bl c') ∧ w1.cell? ⟨sb, k, none⟩ = some (.pointer (some ⟨nb, 0, none⟩)) ∧ w1.cell? ⟨sb, 2 + k, none⟩ = some (.pointer (some ⟨rb, 0, none⟩)) ∧ Kn W w1 ∧
        Hid (Calls Try.prog 12 #[.pointer (some ⟨nb, 0, none⟩), .int .i64 o.to', .slice a' o.bl c'] w1 fun e w2 => ∃ ok : Bool, e = .returned (.bool ok) ∧ w2.cell? ⟨sb, 2 + k, none⟩ = some (.pointer (some ⟨rb, 0, none⟩)) ∧ Kn W w2 ∧
          Hid (Calls Try.prog 14 #[.pointer (some ⟨rb, 0, none⟩), .int .i64 o.to', .slice o.ba o.bl o.bc] w2 fun e w3 => e = .returned (.bool ok) ∧ HdX W0 w3 sb bk xb pb (L + 1) T lo m ov ∧ Kn W w3))) := by
  obtain ⟨nb, rb, en, ev, _⟩ := h.st.count hk hP
  refine ⟨nb, rb, en, ev, fun W hW => ?_⟩
  have hWS := h.on hW
  refine ⟨by rw [← en]; exact hWS.st.cn hk, by rw [← ev]; exact hWS.st.cv hk, ?_⟩
  obtain ⟨hb1, hb2, hb3, hb4⟩ := ho
  refine (hWS.pl.bytes hWS.below.size o.ba o.bl o.bc o.y (hb1.on hWS.below) hb2 hb3).mono fun e w1 ⟨a', c', he, hB1, hn1, G', hp1, hM1⟩ => ?_
  have h1 := hWS.place hp1 hM1
  have hk1 : Kn W w1 := fun b n f hr => hr.of_block (hM1.block b hr.lt (hWS.not hr 2 (by decide)))
  refine ⟨a', c', he, by rw [← en]; exact h1.st.cn hk, by rw [← ev]; exact h1.st.cv hk, hk1, ?_⟩
  obtain ⟨nb', rb', en', ev', hs⟩ := h1.st.send2 h1.below.size hk h1.ls hl1 hP
  obtain rfl : nb = nb' := by rw [en] at en'; simpa using en'
  obtain rfl : rb = rb' := by rw [ev] at ev'; simpa using ev'
  have hbb : ∀ q, o.ba = some q → 0 < o.bl → ¬ SFt sb F q.block := fun q e hq hf => by
    have := (h1.st.ge _ hf).1
    obtain ⟨b, off, e2, hc⟩ := hb1 0 hq
    have hlt : b < W0.heap.size := World.block_lt_of_cell? _ _ hc
    rw [e2] at e
    rw [← Option.some.inj e] at this
    have : W0.heap.size ≤ b := this
    omega
  refine (hs o.to' a' o.ba o.bl c' o.bc o.y hb3 hB1 hn1 (hb1.on h1.below) hbb hb4).mono fun e w2 ⟨ok, he2, ⟨Gq, hM2⟩, hsb, hr⟩ => ⟨ok, he2, ?_, ?_, hr.out.mono fun e w3 ⟨he3, hw3⟩ => ⟨he3, ?_⟩⟩
  · rw [← ev, World.cell?_of_block (w := w1) (a := ⟨sb, 2 + k, none⟩) hsb]
    exact h1.st.cv hk
  · exact hk1.trans (fun b n f hr => hr.of_block (hM2.block b hr.lt (fun e => h1.not hr 0 (by decide) ((h1.f0 b).2 e))))
  · obtain ⟨P', F', s1, s2, s3, s4⟩ := hw3.is
    exact ⟨(h1.stage s1 s3 s2).x, hk1.trans (fun b n f hr => hr.of_block (s2.block b hr.lt (fun e => h1.not hr 0 (by decide) ((h1.f0 b).2 e))))⟩
/-- A message that was looked at, in a variable of its own. -/
def Fl (w wx : World) (B fb : Nat) (a : Option Addr) (n c : Nat) : Prop := ∃ (x : Int) (y : Nat → Nat), Below w.heap.size w wx ∧ w.heap.size ≤ fb ∧ wx.rowIs fb 70 2 (fun i => if i = 0 then .int .i64 x else .slice a n c) ∧ OwnZ wx B (.slice a n c) n y ∧ n ≤ 140737488351232 ∧ ∀ q, a = some q → w.heap.size ≤ q.block
theorem Fl.on {w w1 w2 : World} {B fb n c : Nat} {a : Option Addr} (h : Fl w w1 B fb a n c) (hb : Below w1.heap.size w1 w2) : Fl w w2 B fb a n c := by
  obtain ⟨x, y, h1, h2, h3, h4, h5, h6⟩ := h
  exact ⟨x, y, h1.trans (hb.mono h1.size), h2, h3.of_block (hb.block _ h3.lt), ownZ_keep h4 (fun q e => hb.block q (ownZ_lt h4 q e)), h5, h6⟩
/-- Look into a variable. -/
theorem HdS.look (h : HdS W0 w sb bk xb pb L T lo m ov P nv vv F fam) {k : Nat} (hk : k < 2) {mm : PM} (hP : P k = some mm) :
    ∃ nb rb, nv k = .pointer (some ⟨nb, 0, none⟩) ∧ vv k = .pointer (some ⟨rb, 0, none⟩) ∧ ∀ W, Below w.heap.size w W → W.cell? ⟨sb, k, none⟩ = some (.pointer (some ⟨nb, 0, none⟩)) ∧ W.cell? ⟨sb, 2 + k, none⟩ = some (.pointer (some ⟨rb, 0, none⟩)) ∧
      Hid (∀ W', Below W.heap.size W W' → Calls Try.prog 16 #[.pointer (some ⟨rb, 0, none⟩)] W' fun e w' => e = .returned (.int .i64 (mm.ms.length : Nat)) ∧ w' = W') ∧ Hid (mm.ms.length ≤ 8192) ∧
      Hid (∀ i : Int, Calls Try.prog 15 #[.pointer (some ⟨nb, 0, none⟩), .int .i64 i] (W.alloc (.cells #[.int .i64 0, .slice none 0 0] 70)).drew fun e w4 => ∃ (x : Int) (fa : Option Addr) (n fc : Nat) (ok : Bool), e = .returned (.tuple #[.agg #[.int .i64 x, .slice fa n fc], .bool ok]) ∧ w4.cell? ⟨W.heap.size, 0, none⟩ = some (.int .i64 0) ∧ w4.cell? ⟨W.heap.size, 1, none⟩ = some (.slice none 0 0) ∧ w4.frozen? ⟨W.heap.size, 0, none⟩ = false ∧ w4.frozen? ⟨W.heap.size, 1, none⟩ = false ∧
        Hid (Fl W ((w4.setCell ⟨W.heap.size, 0, none⟩ (.int .i64 x)).setCell ⟨W.heap.size, 1, none⟩ (.slice fa n fc)) W0.heap.size W.heap.size fa n fc)) ∧
      Hid (∀ i : Int, Calls Try.prog 15 #[.pointer (some ⟨nb, 0, none⟩), .int .i64 i] W.drew fun e w4 => ∃ (x : Int) (fa : Option Addr) (n fc : Nat) (ok : Bool), e = .returned (.tuple #[.agg #[.int .i64 x, .slice fa n fc], .bool ok]) ∧
        Hid (Fl W (w4.alloc (.cells #[.int .i64 x, .slice fa n fc] 70)) W0.heap.size w4.heap.size fa n fc)) := by
  obtain ⟨nb, rb, en, ev, hlk⟩ := h.st.look hk hP
  refine ⟨nb, rb, en, ev, fun W hW => ?_⟩
  have hWS := h.on hW
  refine ⟨by rw [← en]; exact hWS.st.cn hk, by rw [← ev]; exact hWS.st.cv hk, fun W' hW' => ?_, ?_, fun i => ?_, fun i => ?_⟩
  · obtain ⟨nb', rb', en', ev', _, hl, _⟩ := (hWS.on hW').st.count hk hP
    obtain rfl : rb = rb' := by rw [ev] at ev'; simpa using ev'
    exact hl.out
  · have hp := h.st.pair k hk
    rw [hP] at hp
    obtain ⟨nb, mv, rb, fv, xs, _, _, hN, _⟩ := hp.go
    have := hN.le
    have := hN.rm
    show mm.ms.length ≤ 8192
    omega
  · have hba : Below W.heap.size W (W.alloc (.cells #[.int .i64 0, .slice none 0 0] 70)).drew := ((Below.refl _ _).alloc (Nat.le_refl _) _).drew
    have hraw : (W.alloc (.cells #[.int .i64 0, .slice none 0 0] 70)).drew.rowIs W.heap.size 70 2 (fun i => (#[Value.int .i64 0, .slice none 0 0])[i]!) := flZ_row W
    have hza : (W.alloc (.cells #[.int .i64 0, .slice none 0 0] 70)).drew.heap.size = W.heap.size + 1 := by simp
    generalize (W.alloc (.cells #[.int .i64 0, .slice none 0 0] 70)).drew = Wa at *
    refine (hlk i Wa (hW.trans (hba.mono hW.size))).mono fun e w4 ⟨x, fa, n, fc, ok, y, he, hO, _, hn, hfa, hb4, _⟩ => ?_
    have hr4 := hraw.of_block (hb4.block _ (by omega))
    refine ⟨x, fa, n, fc, ok, he, hr4.cell (i := 0) (by decide), hr4.cell (i := 1) (by decide), hr4.frozen 0, hr4.frozen 1, x, y, ?_, Nat.le_refl _, ?_, ?_, hn, fun q e => by have := (hfa q e).1; omega⟩
    · have z := hb4.size
      exact ((hba.trans (hb4.mono (by omega))).setCell (Nat.le_refl _) _).setCell (Nat.le_refl _) _
    · refine ((hr4.set 0 (.int .i64 x)).set 1 (.slice fa n fc)).congr (fun i hi => ?_)
      match i, hi with
      | 0, _ => rfl
      | 1, _ => rfl
    · refine ownZ_keep hO (fun q e => ?_)
      have hne : q ≠ W.heap.size := fun e2 => ownZ_row_ne hO hr4 (by decide) (e2 ▸ e)
      exact (Below.heap_setCell _ _ _ _ hne).trans (Below.heap_setCell _ _ _ _ hne)
  · have hbd : Below W.heap.size W W.drew := (Below.refl _ _).drew
    refine (hlk i W.drew (hW.trans (hbd.mono hW.size))).mono fun e w4 ⟨x, fa, n, fc, ok, y, he, hO, _, hn, hfa, hb4, _⟩ => ?_
    have hb4' : Below W.heap.size W w4 := hbd.trans hb4
    refine ⟨x, fa, n, fc, ok, he, x, y, hb4'.trans (((Below.refl _ _).alloc (Nat.le_refl _) _).mono hb4'.size), hb4'.size, row2_alloc w4 _ _ _, ownZ_keep hO (fun q e => Below.heap_alloc _ _ _ (ownZ_lt hO q e)), hn, fun q e => (hfa q e).1⟩
/-- The Shelf takes bytes that are nobody's. -/
theorem HdS.bytes2 (h : HdS W0 w sb bk xb pb L T lo m ov P nv vv F fam) (hT : T ≤ 2000) (a : Option Addr) (n c : Nat) (y : Nat → Nat) (ho : OwnZ w W0.heap.size (.slice a n c) n y) (hfree : ∀ ad, a = some ad → ∀ i, i < 4 → ¬ fam i ad.block) (hmax : n ≤ 140737488351232) :
    Calls Try.prog 17 #[.pointer (some ⟨xb, 0, none⟩), .slice a n c] w fun e w2 => e = .returned (.tuple #[]) ∧ ∃ fam', HdS W0 w2 sb bk xb pb L (T + 1) lo m ov P nv vv F fam' ∧ (∀ i, i < 4 → i ≠ 1 → fam' i = fam i) ∧ Mv (fun k => fam 1 k ∨ ∃ ad, a = some ad ∧ ad.block = k) (fam' 1) w w2 ∧ Kn w w2 := by
  have ge : ∀ i q, i < 4 → upd fam 1 (fun k => fam 1 k ∨ ∃ ad, a = some ad ∧ ad.block = k) i q → W0.heap.size ≤ q ∧ q < w.heap.size := fun i q hi hq => by
    by_cases e : i = 1
    · subst e
      rw [upd_at] at hq
      rcases hq with e | ⟨ad, e1, e2⟩
      · exact h.ge 1 q hi e
      · have e3 : (Value.slice a n c).ownBlock = some q := by rw [e1, ← e2]; rfl
        exact ⟨ownZ_block ho q e3, ownZ_lt ho q e3⟩
    · rw [upd_ne _ _ _ e] at hq
      exact h.ge i q hi hq
  have dis : ∀ i j q, i < 4 → j < 4 → i ≠ j → upd fam 1 (fun k => fam 1 k ∨ ∃ ad, a = some ad ∧ ad.block = k) i q → ¬ upd fam 1 (fun k => fam 1 k ∨ ∃ ad, a = some ad ∧ ad.block = k) j q := fun i j q hi hj hne hq hq' => by
    by_cases e : i = 1
    · subst e
      rw [upd_at] at hq
      rw [upd_ne _ _ _ (Ne.symm hne)] at hq'
      rcases hq with e | ⟨ad, e1, e2⟩
      · exact h.dis 1 j q hi hj hne e hq'
      · exact hfree ad e1 j hj (e2 ▸ hq')
    · rw [upd_ne _ _ _ e] at hq
      by_cases e2 : j = 1
      · subst e2
        rw [upd_at] at hq'
        rcases hq' with e | ⟨ad, e1, e3⟩
        · exact h.dis i 1 q hi hj hne hq e
        · exact hfree ad e1 i hi (e3 ▸ hq)
      · rw [upd_ne _ _ _ e2] at hq'
        exact h.dis i j q hi hj hne hq hq'
  refine (h.sh.bytes h.below.size hT a n c y ho (fun ad e => hfree ad e 1 (by decide)) hmax).mono fun e w2 ⟨he, G', h1, h2⟩ => ⟨he, upd (upd fam 1 (fun k => fam 1 k ∨ ∃ ad, a = some ad ∧ ad.block = k)) 1 G', ?_, fun i _ hne => by rw [upd_ne _ _ _ hne, upd_ne _ _ _ hne], by rw [upd_at]; exact h2, fun b n f hr => hr.of_block (h2.block b hr.lt (fun e => ?_))⟩
  · have hM : Mv (upd fam 1 (fun k => fam 1 k ∨ ∃ ad, a = some ad ∧ ad.block = k) 1) G' w w2 := by rw [upd_at]; exact h2
    obtain ⟨k1, k2⟩ := fam_mv dis (fun i q hi hq => (ge i q hi hq).2) (by decide) hM
    have e0 : ∀ i, i ≠ 1 → upd fam 1 (fun k => fam 1 k ∨ ∃ ad, a = some ad ∧ ad.block = k) i = fam i := fun i hne => upd_ne _ _ _ hne
    have e0' : ∀ i, i ≠ 1 → upd (upd fam 1 (fun k => fam 1 k ∨ ∃ ad, a = some ad ∧ ad.block = k)) 1 G' i = fam i := fun i hne => by rw [upd_ne _ _ _ hne, upd_ne _ _ _ hne]
    exact ⟨h.st.later (fun q hq => k1 0 (by decide) (by decide) q (by rw [e0 0 (by decide)]; exact (h.f0 q).2 hq)), h.ls, by rw [upd_at]; exact h1, by rw [e0' 2 (by decide)]; exact h.pl.later (fun q hq => k1 2 (by decide) (by decide) q (by rw [e0 2 (by decide)]; exact hq)), by rw [e0' 3 (by decide)]; exact h.ot.later (fun q hq => k1 3 (by decide) (by decide) q (by rw [e0 3 (by decide)]; exact hq)), fun q => by rw [e0' 0 (by decide)]; exact h.f0 q, k2, hM.below h.below h.below.size (fun q hq => (ge 1 q (by decide) hq).1)⟩
  · rcases e with e | ⟨ad, e1, e2⟩
    · exact h.not hr 1 (by decide) e
    · exact ownZ_row_ne ho hr (by decide) (by rw [e1, ← e2]; rfl)
/-- Both messages are laid on the Shelf. -/
theorem HdS.two (h : HdS W0 w sb bk xb pb L T lo m ov P nv vv F fam) (hT : T + 1 ≤ 2000) {w1 w2 : World} {fb gb n c n2 c2 : Nat} {a a2 : Option Addr} (hf : Fl w w1 W0.heap.size fb a n c) (hg : Fl w1 w2 W0.heap.size gb a2 n2 c2) :
    w2.cell? ⟨fb, 1, none⟩ = some (.slice a n c) ∧ Calls Try.prog 17 #[.pointer (some ⟨xb, 0, none⟩), .slice a n c] w2 fun e w3 => e = .returned (.tuple #[]) ∧ w3.cell? ⟨gb, 1, none⟩ = some (.slice a2 n2 c2) ∧
      Hid (Calls Try.prog 17 #[.pointer (some ⟨xb, 0, none⟩), .slice a2 n2 c2] w3 fun e w4 => e = .returned (.tuple #[]) ∧ HdX W0 w4 sb bk xb pb L (T + 2) lo m ov ∧ Kn w w4) := by
  obtain ⟨x, y, f1, f2, f3, f4, f5, f6⟩ := hf
  obtain ⟨x2, y2, g1, g2, g3, g4, g5, g6⟩ := hg
  have z1 := f1.size
  have z2 := g1.size
  have hb : Below w.heap.size w w2 := f1.trans (g1.mono z1)
  have h2 := h.on hb
  have ho2 : OwnZ w2 W0.heap.size (.slice a n c) n y := ownZ_keep f4 (fun q e => g1.block q (ownZ_lt f4 q e))
  have hfr := f3.of_block (g1.block _ f3.lt)
  refine ⟨hfr.cell (i := 1) (by decide), ?_⟩
  have ha : ∀ ad, a = some ad → ad.block < w1.heap.size := fun ad e => ownZ_lt f4 ad.block (by rw [e]; rfl)
  refine (h2.bytes2 (by omega) a n c y ho2 (fun ad e i hi hf => by have := (h.ge i _ hi hf).2; have := f6 ad e; omega) f5).mono fun e w3 ⟨he, fam', h3, e3, hM, hk3⟩ => ?_
  have keep : ∀ q, w1.heap.size ≤ q → q < w2.heap.size → w3.heap[q]? = w2.heap[q]? := fun q h1 h2 => hM.block q h2 (fun e => by
    rcases e with e | ⟨ad, e1, e2⟩
    · have := (h.ge 1 q (by decide) e).2; omega
    · have := ha ad e1; omega)
  have hgr := g3.of_block (keep gb g2 g3.lt)
  have hlt2 := ownZ_lt g4
  have ho3 : OwnZ w3 W0.heap.size (.slice a2 n2 c2) n2 y2 := ownZ_keep g4 (fun q e => by
    have h1 := hlt2 q e
    cases a2 with
    | none => simp [Value.ownBlock] at e
    | some ad =>
      have e4 : ad.block = q := by simpa [Value.ownBlock] using e
      exact keep q (by have := g6 ad rfl; omega) h1)
  refine ⟨he, hgr.cell (i := 1) (by decide), ?_⟩
  refine (h3.bytes2 (by omega) a2 n2 c2 y2 ho3 (fun ad e i hi hf => ?_) g5).mono fun e w4 ⟨he4, fam4, h4, _, _, hk4⟩ => ⟨he4, h4.x, ((Kn.below hb).trans hk3).trans hk4⟩
  have hge := g6 ad e
  have hl2 : ad.block < w2.heap.size := hlt2 ad.block (by rw [e]; rfl)
  by_cases e1 : i = 1
  · subst e1
    rcases hM.foot _ hf with (e5 | ⟨ad', e5, e6⟩) | e5
    · have := (h.ge 1 _ (by decide) e5).2; omega
    · have := ha ad' e5; omega
    · omega
  · rw [e3 i hi e1] at hf
    have := (h.ge i _ hi hf).2; omega
end
end Go.Proofs.Ytgpmoakfbhcidaa
