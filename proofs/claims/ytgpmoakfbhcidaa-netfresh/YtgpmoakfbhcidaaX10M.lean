/- The stage: plays, where nothing is marked. -/
import Derived.Test.YtgpmoakfbhcidaaBZ9
import Derived.Test.YtgpmoakfbhcidaaX10
import Derived.Deep.CutBlock
import Derived.Deep.CutRange
namespace Go.Proofs.Ytgpmoakfbhcidaa
open Go.RowKit
set_option maxRecDepth 100000
set_option maxRecDepth 100000

/-- What plays leaves, the Book beside it. -/
def PlayedM (B sb bk L T : Nat) (F : Nat → Nat → Prop) (G : Nat → Prop) (w w' : World) : Prop := ∃ P' nv' vv' F' G', StIs w' B sb bk true P' nv' vv' F' ∧ Mv (fun q => SFt sb F q ∨ G q) (fun q => SFt sb F' q ∨ G' q) w w' ∧ LostLe P' L ∧ BkIs w' B bk (T + 1) G' ∧ ∀ q, G' q → ¬ SFt sb F' q
theorem WentM.played {B sb bk : Nat} {k L T : Nat} {nv vv : Nat → Value} {F : Nat → Nat → Prop} {G : Nat → Prop} {w w1 w' : World} (h : WentM B sb bk k L T nv vv F G w1 w') (hb : Below w.heap.size w w1) : PlayedM B sb bk L T F G w w' := by
  obtain ⟨P', F', G', h1, h2, h3, _, h5, h6⟩ := h
  exact ⟨P', nv, vv, F', G', h1, Mv.after hb h2, h3, h5, h6⟩
set_option maxHeartbeats 12800000 in
theorem plays_mark {W00 w : World} {sb bk T : Nat} {G : Nat → Prop} {P : Nat → Option PM} {nv vv : Nat → Value} {F : Nat → Nat → Prop} {L : Nat} (h : StIs w W00.heap.size sb bk true P nv vv F) (hW : Below W00.heap.size W00 w) (hL : LostLe P L) (hl1 : L ≤ 1000) (hK : BkIs w W00.heap.size bk T G) (hd : ∀ q, G q → ¬ SFt sb F q) (hT : T ≤ 900000000) (dd wh at' to' : Int) (ba : Option Addr) (bl bc : Nat) (y : Nat → Nat) (hby : Byt W00 ba bl y) (hba : ba = none → bl = 0 ∧ bc = 0) (hbl : bl ≤ 140737488351232) (hy : ∀ j, j < bl → y j < 256) :
    Calls Try.prog 7 #[.pointer (some ⟨sb, 0, none⟩), .agg #[.int .i64 dd, .int .i64 wh, .int .i64 at', .int .i64 to', .slice ba bl bc]] w fun e w' => e = .returned (.bool true) ∧ PlayedM W00.heap.size sb bk (L + 1) T F G w w' := by
  obtain ⟨W1, HW1⟩ : ∃ W, Hid (w.alloc (.cells #[.int .i64 dd, .int .i64 wh, .int .i64 at', .int .i64 to', .slice ba bl bc] 55) = W) := ⟨_, rfl⟩
  have hb1 : Below w.heap.size w W1 := by rw [← HW1.out]; exact (Below.refl _ _).alloc (Nat.le_refl _) _
  have hr1 := row5_alloc w (.int .i64 dd) (.int .i64 wh) (.int .i64 at') (.int .i64 to') (.slice ba bl bc) 55
  rw [HW1.out] at hr1
  have hz1 : W1.heap.size = w.heap.size + 1 := by rw [← HW1.out]; simp
  have b0 : W1.cell? ⟨w.heap.size, 0, none⟩ = some (.int .i64 dd) := hr1.cell (i := 0) (by decide)
  have b1 : W1.cell? ⟨w.heap.size, 1, none⟩ = some (.int .i64 wh) := hr1.cell (i := 1) (by decide)
  have b2 : W1.cell? ⟨w.heap.size, 2, none⟩ = some (.int .i64 at') := hr1.cell (i := 2) (by decide)
  have b3 : W1.cell? ⟨w.heap.size, 3, none⟩ = some (.int .i64 to') := hr1.cell (i := 3) (by decide)
  have b4 : W1.cell? ⟨w.heap.size, 4, none⟩ = some (.slice ba bl bc) := hr1.cell (i := 4) (by decide)
  have h1 := h.on hb1
  have hW1 : Below W00.heap.size W00 W1 := hW.trans (hb1.mono hW.size)
  have hin := into_any wh 2 (by decide) (by decide) W1
  have HB1 : Hid (Below w.heap.size w W1) := hb1
  have HBK : Hid (BkIs W1 W00.heap.size bk T G ∧ ∀ q, G q → ¬ SFt sb F q) := ⟨hK.on hb1, hd⟩
  have HWW : Hid (Below W00.heap.size W00 W1) := hW1
  have HL : Hid (LostLe P L) := hL
  have HNB : Hid (¬ SFt sb F w.heap.size) := fun e => by have := (h.ge _ e).2; omega
  have HBY : Hid (Byt W00 ba bl y ∧ (ba = none → bl = 0 ∧ bc = 0) ∧ ∀ j, j < bl → y j < 256) := ⟨hby, hba, hy⟩
  have HC : Hid (∀ (W : World) (G : Nat → Prop), Mv (SFt sb F) G W1 W → W.cell? ⟨w.heap.size, 2, none⟩ = some (.int .i64 at') ∧ W.cell? ⟨w.heap.size, 3, none⟩ = some (.int .i64 to') ∧ W.cell? ⟨w.heap.size, 4, none⟩ = some (.slice ba bl bc)) := fun W G hM => by
    have hr := hr1.of_block (hM.block w.heap.size (by omega) HNB.out)
    exact ⟨hr.cell (i := 2) (by decide), hr.cell (i := 3) (by decide), hr.cell (i := 4) (by decide)⟩
  have HH : Hid (StIs W1 W00.heap.size sb bk true P nv vv F) := h1
  clear hK hd h hW hL hb1 hr1 hW1 hby hba hy hz1
  go_enter Try.func7, Try.ntmps7
  go_upto_region 1 with fail
  rw [HW1.out]
  go_wp2_with fail
  refine hin.mono ?_
  rintro e w2 ⟨e1, k, hk, rfl⟩
  subst e1
  have hkz : (k : Int) < 2 := by omega
  have cn := HH.out.cn hk
  have cv := HH.out.cv hk
  clear hin h1
  by_cases h6 : dd = 6
  · subst h6
    have hfr := fresh_any HH.out HWW.out.size k hk at'
    have HF : Hid (∀ w', (∃ nv' vv' F', StIs w' W00.heap.size sb bk true (upd P k (newP at')) nv' vv' F' ∧ Mv (SFt sb F) (SFt sb F') w2 w') → PlayedM W00.heap.size sb bk (L + 1) T F G w w') := fun w' ⟨nv', vv', F', q1, q2⟩ => ⟨_, nv', vv', F', G, q1, Mv.after HB1.out (book_mv HBK.out.1 HBK.out.2 q2).2.2, fun j m hj e => by
      by_cases e2 : j = k
      · rw [e2, upd_at] at e
        unfold newP at e
        split at e
        · rw [← Option.some.inj e]; exact Nat.zero_le _
        · cases e
      · rw [upd_ne _ _ _ e2] at e
        have := HL.out j m hj e
        omega, (book_mv HBK.out.1 HBK.out.2 q2).1.mono (Nat.le_succ T), (book_mv HBK.out.1 HBK.out.2 q2).2.1⟩
    clear cn cv
    go_wp2_with fail
    refine hfr.mono ?_
    rintro e w3 ⟨rfl, hq⟩
    have HE := HF.out w3 hq
    clear HF hq hfr
    go_wp2_with fail
    go_ret
    exact ⟨rfl, HE⟩
  · have h6b : (dd == 6) = false := by simpa using h6
    cases hP : P k with
    | none =>
      have hp := HH.out.pair k hk
      rw [hP] at hp
      obtain ⟨e1, e2, _⟩ := hp
      rw [e1] at cn
      rw [e2] at cv
      have HE : Hid (PlayedM W00.heap.size sb bk (L + 1) T F G w w2) := ⟨P, nv, vv, F, G, HH.out, Mv.of_below HB1.out, (fun j m hj e => by have := HL.out j m hj e; omega), HBK.out.1.mono (Nat.le_succ T), HBK.out.2⟩
      clear hP e1 e2
      go_wp2_with fail
      go_ret
      exact ⟨rfl, HE.out⟩
    | some m =>
      obtain ⟨nb, rb, en, ev, hSD⟩ := HH.out.count hk hP
      rw [en] at cn
      rw [ev] at cv
      have HEN : Hid (nv k = .pointer (some ⟨nb, 0, none⟩) ∧ vv k = .pointer (some ⟨rb, 0, none⟩)) := ⟨en, ev⟩
      have HP : Hid (P k = some m) := hP
      clear hSD en ev hP
      go_upto_block 0 with fail
      go_cut [8, 9, 10, 11, 12, 13, 14, 15, 16, 17] from 18 (fun s8 _ _ _ _ _ _ _ _ _ wx => s8 = .bool true ∧ Hid (WentM W00.heap.size sb bk k (L + 1) T nv vv F G w2 wx))
      case first =>
        by_cases d1 : dd = 1
        · obtain rfl : dd = 1 := d1
          have HS : Hid (∀ (w3 : World) (g cap : Nat) (f : Nat → Value), Lent w3 g bl cap y f → w2.heap.size ≤ g → Below w2.heap.size w2 w3 → Calls Try.prog 12 #[.pointer (some ⟨nb, 0, none⟩), .int .i64 to', .slice (some ⟨g, 0, none⟩) bl cap] w3.drew fun e w4 => ∃ ok : Bool, e = .returned (.bool ok) ∧ (w4.cell? ⟨w.heap.size, 3, none⟩ = some (.int .i64 to') ∧ w4.cell? ⟨w.heap.size, 4, none⟩ = some (.slice ba bl bc)) ∧
              Hid (Calls Try.prog 14 #[.pointer (some ⟨rb, 0, none⟩), .int .i64 to', .slice ba bl bc] w4 fun e w5 => e = .returned (.bool ok) ∧ (w5.cell? ⟨w.heap.size, 3, none⟩ = some (.int .i64 to') ∧ w5.cell? ⟨w.heap.size, 4, none⟩ = some (.slice ba bl bc)) ∧ Hid (Calls Try.prog 25 #[.slice (some ⟨g, 0, none⟩) bl cap, .slice ba bl bc] w5 fun e w6 => e = .returned (.bool true) ∧ w6 = w5) ∧
                Hid (Calls Try.prog 26 #[.slice (some ⟨g, 0, none⟩) bl cap] w5 fun e w6 => e = .returned (.tuple #[]) ∧ Went W00.heap.size sb bk true k (L + 1) nv vv F w2 w6))) := by
            intro w3 g cap f hLt hg hb3
            have h3 := HH.out.on hb3
            have h3d : StIs w3.drew W00.heap.size sb bk true P nv vv F := h3.later (fun _ _ => rfl)
            have hW3 : Below W00.heap.size W00 w3.drew := (HWW.out.trans (hb3.mono HWW.out.size)).drew
            have hby3 := HBY.out.1.on hW3
            have hgl := hLt.row.lt
            have hgF : ¬ SFt sb F g := fun e => by have := (HH.out.ge _ e).2; omega
            obtain ⟨nb', rb', en', ev', hc⟩ := h3d.send hW3.size hk HL.out hl1 HP.out
            obtain ⟨en, ev⟩ := HEN.out
            obtain rfl : nb = nb' := by rw [en] at en'; simpa using en'
            obtain rfl : rb = rb' := by rw [ev] at ev'; simpa using ev'
            refine (hc to' (some ⟨g, 0, none⟩) ba bl cap bc y hbl (hLt.drewN 1).byt (fun e => by cases e) hby3 (fun q e h0 => fun hf => ?_) HBY.out.2.2).mono fun e w4 ⟨ok, he, ⟨G, hM4⟩, hr⟩ => ⟨ok, he, ?_, hr.out.mono fun e w5 ⟨he5, hWt⟩ => ?_⟩
            · obtain ⟨q', off, e', hcc⟩ := HBY.out.1 0 h0
              rw [e] at e'
              have : q = ⟨q', off, none⟩ := Option.some.inj e'
              have h1 := World.block_lt_of_cell? _ _ hcc
              have h2 := (h3d.ge _ hf).1
              rw [this] at h2
              have h2 : W00.heap.size ≤ q' := h2
              have h1 : q' < W00.heap.size := h1
              omega
            · have hM : Mv (SFt sb F) G w2 w4 := Mv.after (w1 := w3.drew) ⟨hb3.os, hb3.tape, hb3.output, hb3.size, hb3.block⟩ hM4
              exact (HC.out w4 G hM).2
            · obtain ⟨P', F', s1, s2, s3, s4⟩ := hWt.is
              have hM : Mv (SFt sb F) (SFt sb F') w2 w5 := Mv.after (w1 := w3.drew) ⟨hb3.os, hb3.tape, hb3.output, hb3.size, hb3.block⟩ s2
              have hg5 : w5.heap[g]? = w3.heap[g]? := s2.block g hgl hgF
              have hL5 : Lent w5 g bl cap y f := ⟨hLt.row.of_block hg5, hLt.room, hLt.cap, hLt.byte, hLt.k0, hLt.k1, hLt.k2⟩
              have hW5 : Below W00.heap.size W00 w5 := s2.below hW3 hW3.size (fun q hq => (h3d.ge q hq).1)
              refine ⟨he5, (HC.out w5 _ hM).2, intact_any g bl cap y f ba bc w5 hL5 (HBY.out.1.on hW5) (fun e => (HBY.out.2.1 e).1) hbl, (over_any g bl cap cap f w5 hL5.row (by have := hLt.room; omega) (by omega)).mono fun e w6 ⟨he6, _, hz6, hk6⟩ => ⟨he6, P', F', s1.later (fun q hq => hk6 q (fun e => ?_)), ⟨hz6.1.trans hM.os, hz6.2.1.trans hM.tape, hz6.2.2.1.trans hM.output, by rw [hz6.2.2.2]; exact hM.size, fun q hq hn => (hk6 q (by omega)).trans (hM.block q hq hn), hM.foot⟩, s3, s4⟩⟩
              rcases s2.foot q hq with e2 | e2
              · exact hgF (e ▸ e2)
              · have : w3.heap.size ≤ q := e2
                omega
          have hln := lend_any ba bl bc y w2 hbl (HBY.out.1.on HWW.out) (HBY.out.2.1)
          clear b1 b2 cn cv
          go_wp2_with fail
          refine hln.mono ?_
          rintro e w3 ⟨g, cap, f, rfl, hg, hs3, hLt⟩
          have hb3 := since_below hs3
          have hsd := HS.out w3 g cap f hLt hg hb3
          have v3 : w3.cell? ⟨w.heap.size, 3, none⟩ = some (.int .i64 to') := cel_on hb3 b3
          have v4 : w3.cell? ⟨w.heap.size, 4, none⟩ = some (.slice ba bl bc) := cel_on hb3 b4
          have HSD : Hid (Calls Try.prog 12 #[.pointer (some ⟨nb, 0, none⟩), .int .i64 to', .slice (some ⟨g, 0, none⟩) bl cap] w3.drew fun e w4 => ∃ ok : Bool, e = .returned (.bool ok) ∧ (w4.cell? ⟨w.heap.size, 3, none⟩ = some (.int .i64 to') ∧ w4.cell? ⟨w.heap.size, 4, none⟩ = some (.slice ba bl bc)) ∧
              Hid (Calls Try.prog 14 #[.pointer (some ⟨rb, 0, none⟩), .int .i64 to', .slice ba bl bc] w4 fun e w5 => e = .returned (.bool ok) ∧ (w5.cell? ⟨w.heap.size, 3, none⟩ = some (.int .i64 to') ∧ w5.cell? ⟨w.heap.size, 4, none⟩ = some (.slice ba bl bc)) ∧ Hid (Calls Try.prog 25 #[.slice (some ⟨g, 0, none⟩) bl cap, .slice ba bl bc] w5 fun e w6 => e = .returned (.bool true) ∧ w6 = w5) ∧
                Hid (Calls Try.prog 26 #[.slice (some ⟨g, 0, none⟩) bl cap] w5 fun e w6 => e = .returned (.tuple #[]) ∧ Went W00.heap.size sb bk true k (L + 1) nv vv F w2 w6))) := hsd
          clear hsd hs3 hLt hb3 hln HS b3 b4 b0
          go_upto_region 12 with fail
          go_region_held3 (fun W => W.cell? ⟨w.heap.size, 3, none⟩ = some (.int .i64 to') ∧ W.cell? ⟨w.heap.size, 4, none⟩ = some (.slice ba bl bc))
            (first | exact ⟨v3, v4⟩ | exact hv4 | exact hv5)
            (first
              | (go_at_call 12; with_reducible refine HSD.out.mono ?_; rintro e w4 ⟨ok, rfl, hv4, HRS⟩)
              | (go_at_call 14; with_reducible refine HRS.out.mono ?_; rintro e w5 ⟨rfl, hv5, HIN, HOV⟩)
              | (go_at_call 25; with_reducible refine HIN.out.mono ?_; rintro e w6 ⟨rfl, rfl⟩))
          all_goals
            go_wp2_with fail
            refine HOV.out.mono ?_
            rintro e w7 ⟨rfl, hG7⟩
            have HG7 : Hid (WentM W00.heap.size sb bk k (L + 1) T nv vv F G w2 w7) := hG7.m HBK.out.1 HBK.out.2
            clear HSD HRS HIN HOV hv4 hv5 hG7
            go_wp2_with fail
            go_meet
            case rel => go_light; exact ⟨rfl, HG7⟩
        by_cases d2 : dd = 2
        · obtain rfl : dd = 2 := d2
          have HS : Hid (∀ Wc, Below w2.heap.size w2 Wc → Calls Try.prog 15 #[.pointer (some ⟨nb, 0, none⟩), .int .i64 at'] Wc fun e w4 => ∃ (x : Int) (fa : Option Addr) (n fc : Nat) (ok : Bool), e = .returned (.tuple #[.agg #[.int .i64 x, .slice fa n fc], .bool ok]) ∧ (∀ q, w2.heap.size ≤ q → q < Wc.heap.size → w4.heap[q]? = Wc.heap[q]?) ∧ Wc.heap.size ≤ w4.heap.size ∧
              Hid (∀ W fb, Fr fb w4 W → w2.heap.size ≤ fb → (fb < Wc.heap.size ∨ w4.heap.size ≤ fb) → W.rowIs fb 70 2 (fun i => if i = 0 then .int .i64 x else .slice fa n fc) → W.cell? ⟨w.heap.size, 2, none⟩ = some (.int .i64 at') ∧ Hid (Calls Try.prog 27 #[.pointer (some ⟨rb, 0, none⟩), .int .i64 at'] W fun e w5 => ∃ (b : Option Addr) (d : Nat), e = .returned (.tuple #[.agg #[.int .i64 x, .slice b n d], .bool ok]) ∧ Hid (∀ W', Below w5.heap.size w5 W' → W'.cell? ⟨fb, 0, none⟩ = some (.int .i64 x) ∧ W'.cell? ⟨fb, 1, none⟩ = some (.slice fa n fc) ∧ Hid (Calls Try.prog 28 #[.pointer (some ⟨sb, 0, none⟩), .agg #[.int .i64 x, .slice fa n fc], .bool ok, .agg #[.int .i64 x, .slice b n d], .bool ok] W' fun e w6 => e = .returned (.bool true) ∧ WentM W00.heap.size sb bk k (L + 1) T nv vv F G w2 w6))))) := by
            intro Wc hWc
            obtain ⟨nb', rb', en', ev', hc⟩ := HH.out.look hk HP.out
            obtain ⟨en, ev⟩ := HEN.out
            obtain rfl : nb = nb' := by rw [en] at en'; simpa using en'
            obtain rfl : rb = rb' := by rw [ev] at ev'; simpa using ev'
            refine (hc at' Wc hWc).mono fun e w4 ⟨x, fa, n, fc, ok, yy, he, hO4, hB4, hn, hfa, hb4, hr⟩ => ⟨x, fa, n, fc, ok, he, fun q _ hq => hb4.block q hq, hb4.size, fun W fb hf hfb hfb2 hrow => ?_⟩
            have z1 := hWc.size
            have z2 := hb4.size
            have z3 := hf.size
            have hb2W : Below w2.heap.size w2 W := ⟨hf.os.trans (hb4.os.trans hWc.os), hf.tape.trans (hb4.tape.trans hWc.tape), hf.output.trans (hb4.output.trans hWc.output), by omega, fun q hq => (hf.block q (by omega) (by omega)).trans ((hb4.block q (by omega)).trans (hWc.block q hq))⟩
            have hBW : Byt W fa n yy := hB4.fr hf (fun q e => by have := hfa q e; omega)
            refine ⟨(HC.out W _ (Mv.of_below hb2W)).1, (hr.out W fb hf hfb).mono fun e w5 ⟨b, d, he5, hB5, hb5⟩ => ⟨b, d, he5, fun W' hW' => ?_⟩⟩
            have hbW' : Below W.heap.size W W' := hb5.trans (hW'.mono hb5.size)
            have hr' := hrow.of_block (hbW'.block fb hrow.lt)
            have hb25 : Below w2.heap.size w2 w5 := hb2W.trans (hb5.mono hb2W.size)
            have hOW' : OwnZ W' W00.heap.size (.slice fa n fc) n yy := ownZ_keep hO4 (fun q e => by
              match fa, e, hfa with
              | some ad, e, hfa =>
                have e2 : ad.block = q := by simpa [Value.ownBlock] using e
                have h1 := hfa ad rfl
                exact (hbW'.block q (by omega)).trans (hf.block q (by omega) (by omega))
              | none, e, _ => simp [Value.ownBlock] at e)
            exact ⟨hr'.cell (i := 0) (by decide), hr'.cell (i := 1) (by decide), told_went (w := w2) (F := F) (F' := F) (w5 := w5) (HH.out.on hb25) (HBK.out.1.on hb25) HBK.out.2 (Mv.of_below hb25) hW' hT x ok fa b n fc d yy hOW' (fun q e => ⟨by have := hfa q e; omega, fun hf => by have := (HH.out.ge _ hf).2; have := hfa q e; omega, fun hf => by have := (HBK.out.1.ge _ hf).2; have := hfa q e; omega⟩) (hBW.on hbW') (hB5.on hW') hn (fun j q hj e => Nat.le_succ_of_le (HL.out j q hj e)) ⟨m, HP.out⟩⟩
          have hbd : Below w2.heap.size w2 w2.drew := (Below.refl _ _).drew
          have hba : Below w2.heap.size w2 (w2.alloc (.cells #[.int .i64 0, .slice none 0 0] 70)).drew := ((Below.refl _ _).alloc (Nat.le_refl _) _).drew
          have hraw : (w2.alloc (.cells #[.int .i64 0, .slice none 0 0] 70)).drew.rowIs w2.heap.size 70 2 (fun i => (#[Value.int .i64 0, .slice none 0 0])[i]!) := flZ_row w2
          have hza : (w2.alloc (.cells #[.int .i64 0, .slice none 0 0] 70)).drew.heap.size = w2.heap.size + 1 := by simp
          have HA : Hid (Calls Try.prog 15 #[.pointer (some ⟨nb, 0, none⟩), .int .i64 at'] (w2.alloc (.cells #[.int .i64 0, .slice none 0 0] 70)).drew fun e w4 => ∃ (x : Int) (fa : Option Addr) (n fc : Nat) (ok : Bool), e = .returned (.tuple #[.agg #[.int .i64 x, .slice fa n fc], .bool ok]) ∧ w4.cell? ⟨w2.heap.size, 0, none⟩ = some (.int .i64 0) ∧ w4.cell? ⟨w2.heap.size, 1, none⟩ = some (.slice none 0 0) ∧ w4.frozen? ⟨w2.heap.size, 0, none⟩ = false ∧ w4.frozen? ⟨w2.heap.size, 1, none⟩ = false ∧
              Hid (((w4.setCell ⟨w2.heap.size, 0, none⟩ (.int .i64 x)).setCell ⟨w2.heap.size, 1, none⟩ (.slice fa n fc)).cell? ⟨w.heap.size, 2, none⟩ = some (.int .i64 at') ∧ Hid (Calls Try.prog 27 #[.pointer (some ⟨rb, 0, none⟩), .int .i64 at'] ((w4.setCell ⟨w2.heap.size, 0, none⟩ (.int .i64 x)).setCell ⟨w2.heap.size, 1, none⟩ (.slice fa n fc)) fun e w5 => ∃ (b : Option Addr) (d : Nat), e = .returned (.tuple #[.agg #[.int .i64 x, .slice b n d], .bool ok]) ∧ Hid (∀ W', Below w5.heap.size w5 W' → W'.cell? ⟨w2.heap.size, 0, none⟩ = some (.int .i64 x) ∧ W'.cell? ⟨w2.heap.size, 1, none⟩ = some (.slice fa n fc) ∧ Hid (Calls Try.prog 28 #[.pointer (some ⟨sb, 0, none⟩), .agg #[.int .i64 x, .slice fa n fc], .bool ok, .agg #[.int .i64 x, .slice b n d], .bool ok] W' fun e w6 => e = .returned (.bool true) ∧ WentM W00.heap.size sb bk k (L + 1) T nv vv F G w2 w6))))) := (HS.out _ hba).mono fun e w4 ⟨x, fa, n, fc, ok, he, hk4, hz4, hr⟩ => by
            have hr4 := hraw.of_block (hk4 _ (Nat.le_refl _) (by omega))
            refine ⟨x, fa, n, fc, ok, he, hr4.cell (i := 0) (by decide), hr4.cell (i := 1) (by decide), hr4.frozen 0, hr4.frozen 1, hr.out _ w2.heap.size ⟨rfl, rfl, rfl, by simp [World.setCell], fun q hq hne => (Below.heap_setCell _ _ _ _ hne).trans (Below.heap_setCell _ _ _ _ hne)⟩ (Nat.le_refl _) (.inl (by omega)) ?_⟩
            refine ((hr4.set 0 (.int .i64 x)).set 1 (.slice fa n fc)).congr (fun i hi => ?_)
            match i, hi with
            | 0, _ => rfl
            | 1, _ => rfl
          have HBD : Hid (Calls Try.prog 15 #[.pointer (some ⟨nb, 0, none⟩), .int .i64 at'] w2.drew fun e w4 => ∃ (x : Int) (fa : Option Addr) (n fc : Nat) (ok : Bool), e = .returned (.tuple #[.agg #[.int .i64 x, .slice fa n fc], .bool ok]) ∧
              Hid ((w4.alloc (.cells #[.int .i64 x, .slice fa n fc] 70)).cell? ⟨w.heap.size, 2, none⟩ = some (.int .i64 at') ∧ Hid (Calls Try.prog 27 #[.pointer (some ⟨rb, 0, none⟩), .int .i64 at'] (w4.alloc (.cells #[.int .i64 x, .slice fa n fc] 70)) fun e w5 => ∃ (b : Option Addr) (d : Nat), e = .returned (.tuple #[.agg #[.int .i64 x, .slice b n d], .bool ok]) ∧ Hid (∀ W', Below w5.heap.size w5 W' → W'.cell? ⟨w4.heap.size, 0, none⟩ = some (.int .i64 x) ∧ W'.cell? ⟨w4.heap.size, 1, none⟩ = some (.slice fa n fc) ∧ Hid (Calls Try.prog 28 #[.pointer (some ⟨sb, 0, none⟩), .agg #[.int .i64 x, .slice fa n fc], .bool ok, .agg #[.int .i64 x, .slice b n d], .bool ok] W' fun e w6 => e = .returned (.bool true) ∧ WentM W00.heap.size sb bk k (L + 1) T nv vv F G w2 w6))))) := (HS.out _ hbd).mono fun e w4 ⟨x, fa, n, fc, ok, he, hk4, hz4, hr⟩ =>
            ⟨x, fa, n, fc, ok, he, hr.out _ w4.heap.size (Fr.of_below ((Below.refl _ _).alloc (Nat.le_refl _) _)) hz4 (.inr (Nat.le_refl _)) (row2_alloc w4 _ _ _)⟩
          have b2d : w2.drew.cell? ⟨w.heap.size, 2, none⟩ = some (.int .i64 at') := b2
          have b2e : (w2.alloc (.cells #[.int .i64 0, .slice none 0 0] 70)).drew.cell? ⟨w.heap.size, 2, none⟩ = some (.int .i64 at') := cel_on hba b2
          have b2f : (w2.alloc (.cells #[.int .i64 0, .slice none 0 0] 70)).cell? ⟨w.heap.size, 2, none⟩ = some (.int .i64 at') := b2e
          clear b0 b1 b3 b4 cn cv HS hbd hba hraw hza
          go_upto_region 15 with fail
          go_cut [10, 11] from 18 (fun s10 s11 wx => ∃ (x : Int) (fa : Option Addr) (n fc : Nat) (ok : Bool) (fb : Nat), s10 = .pointer (some ⟨fb, 0, none⟩) ∧ s11 = .bool ok ∧ Hid (wx.cell? ⟨w.heap.size, 2, none⟩ = some (.int .i64 at') ∧ Hid (Calls Try.prog 27 #[.pointer (some ⟨rb, 0, none⟩), .int .i64 at'] wx fun e w5 => ∃ (b : Option Addr) (d : Nat), e = .returned (.tuple #[.agg #[.int .i64 x, .slice b n d], .bool ok]) ∧ Hid (∀ W', Below w5.heap.size w5 W' → W'.cell? ⟨fb, 0, none⟩ = some (.int .i64 x) ∧ W'.cell? ⟨fb, 1, none⟩ = some (.slice fa n fc) ∧ Hid (Calls Try.prog 28 #[.pointer (some ⟨sb, 0, none⟩), .agg #[.int .i64 x, .slice fa n fc], .bool ok, .agg #[.int .i64 x, .slice b n d], .bool ok] W' fun e w6 => e = .returned (.bool true) ∧ WentM W00.heap.size sb bk k (L + 1) T nv vv F G w2 w6)))))
          case first =>
            go_region_law (first
              | (go_simp; go_at_call 15; with_reducible refine HA.out.mono ?_; rintro e w4 ⟨x, fa, n, fc, ok, rfl, x0, x1, z0, z1, HRS⟩)
              | (go_simp; go_at_call 15; with_reducible refine HBD.out.mono ?_; rintro e w4 ⟨x, fa, n, fc, ok, rfl, HRS⟩))
            all_goals
              go_wp2_with fail
              go_meet
              case rel => go_light; exact ⟨x, fa, n, fc, ok, _, rfl, rfl, HRS⟩
          case rest =>
            obtain ⟨x, fa, n, fc, ok, fb, rfl, rfl, HX⟩ := hcut
            obtain ⟨b2, HRF⟩ := HX.out
            clear HX b2d b2e b2f HA HBD
            go_wp2_with fail
            refine HRF.out.mono ?_
            rintro e w5 ⟨gb, gd, rfl, HTD⟩
            obtain ⟨W6, HW6⟩ : ∃ W, Hid (w5.alloc (.cells #[.int .i64 x, .slice gb n gd] 70) = W) := ⟨_, rfl⟩
            have hb6 : Below w5.heap.size w5 W6 := by rw [← HW6.out]; exact (Below.refl _ _).alloc (Nat.le_refl _) _
            have hr6 := row2_alloc w5 (.int .i64 x) (.slice gb n gd) 70
            rw [HW6.out] at hr6
            have v0 : W6.cell? ⟨w5.heap.size, 0, none⟩ = some (.int .i64 x) := hr6.cell (i := 0) (by decide)
            have v1 : W6.cell? ⟨w5.heap.size, 1, none⟩ = some (.slice gb n gd) := hr6.cell (i := 1) (by decide)
            obtain ⟨u0, u1, HT⟩ := HTD.out W6 hb6
            clear HTD hb6 hr6 HRF
            go_upto_region 17 with fail
            rw [HW6.out]
            go_wp2_with fail
            refine HT.out.mono ?_
            rintro e w7 ⟨rfl, hG⟩
            have HG7 : Hid (WentM W00.heap.size sb bk k (L + 1) T nv vv F G w2 w7) := hG
            clear hG HT u0 u1 v0 v1
            go_wp2_with fail
            go_meet
            case rel => go_light; exact ⟨rfl, HG7⟩
        by_cases d3 : dd = 3
        · obtain rfl : dd = 3 := d3
          have HS : Hid (∀ Wc, Below w2.heap.size w2 Wc → Calls Try.prog 20 #[.pointer (some ⟨nb, 0, none⟩), .int .i64 at'] Wc fun e w4 => ∃ (x : Int) (fa : Option Addr) (n fc : Nat) (ok : Bool), e = .returned (.tuple #[.agg #[.int .i64 x, .slice fa n fc], .bool ok]) ∧ (∀ q, w2.heap.size ≤ q → q < Wc.heap.size → w4.heap[q]? = Wc.heap[q]?) ∧ Wc.heap.size ≤ w4.heap.size ∧
              Hid (∀ W fb, Fr fb w4 W → w2.heap.size ≤ fb → (fb < Wc.heap.size ∨ w4.heap.size ≤ fb) → W.rowIs fb 70 2 (fun i => if i = 0 then .int .i64 x else .slice fa n fc) → W.cell? ⟨w.heap.size, 2, none⟩ = some (.int .i64 at') ∧ Hid (Calls Try.prog 29 #[.pointer (some ⟨rb, 0, none⟩), .int .i64 at'] W fun e w5 => ∃ (b : Option Addr) (d : Nat), e = .returned (.tuple #[.agg #[.int .i64 x, .slice b n d], .bool ok]) ∧ Hid (∀ W', Below w5.heap.size w5 W' → W'.cell? ⟨fb, 0, none⟩ = some (.int .i64 x) ∧ W'.cell? ⟨fb, 1, none⟩ = some (.slice fa n fc) ∧ Hid (Calls Try.prog 28 #[.pointer (some ⟨sb, 0, none⟩), .agg #[.int .i64 x, .slice fa n fc], .bool ok, .agg #[.int .i64 x, .slice b n d], .bool ok] W' fun e w6 => e = .returned (.bool true) ∧ WentM W00.heap.size sb bk k (L + 1) T nv vv F G w2 w6))))) := by
            intro Wc hWc
            obtain ⟨nb', rb', en', ev', hc⟩ := HH.out.take HWW.out.size hk HL.out HP.out
            obtain ⟨en, ev⟩ := HEN.out
            obtain rfl : nb = nb' := by rw [en] at en'; simpa using en'
            obtain rfl : rb = rb' := by rw [ev] at ev'; simpa using ev'
            refine (hc at' Wc hWc).mono fun e w4 ⟨x, fa, n, fc, ok, yy, he, hO4, hB4, hn, hfa, ⟨G, hM4⟩, hr⟩ => ⟨x, fa, n, fc, ok, he, fun q hq hq2 => hM4.block q hq2 (fun e => by have := (HH.out.ge q e).2; omega), hM4.size, fun W fb hf hfb hfb2 hrow => ?_⟩
            have z1 := hWc.size
            have z2 := hM4.size
            have z3 := hf.size
            have hM2W : Mv (SFt sb F) (fun _ => False) w2 W := ⟨hf.os.trans (hM4.os.trans hWc.os), hf.tape.trans (hM4.tape.trans hWc.tape), hf.output.trans (hM4.output.trans hWc.output), by omega, fun q hq hn => (hf.block q (by omega) (by omega)).trans ((hM4.block q (by omega) hn).trans (hWc.block q hq)), fun q hq => hq.elim⟩
            have hBW : Byt W fa n yy := hB4.fr hf (fun q e => by have := hfa q e; omega)
            refine ⟨(HC.out W _ hM2W).1, (hr.out W fb hf hfb hfb2).mono fun e w5 ⟨b, d, he5, hB5, hWt, hk5⟩ => ⟨b, d, he5, fun W' hW' => ?_⟩⟩
            obtain ⟨P', F', s1, s2, s3, s4⟩ := hWt.is
            have hr' := (hrow.of_block (hk5 fb hfb hrow.lt)).of_block (hW'.block fb (by have := (hrow.of_block (hk5 fb hfb hrow.lt)).lt; omega))
            obtain ⟨bm1, bm2, bm3⟩ := book_mv HBK.out.1 HBK.out.2 s2
            have hmk5 : ∀ q, fa = some q → Mkd w5 q.block := fun q e => by
              have h1 := hfa q e
              exact (h1.2.2.on (hf.block q.block (by omega) (by omega))).on (hk5 q.block (by omega) (by omega))
            have hOW' : OwnZ W' W00.heap.size (.slice fa n fc) n yy := ownZ_keep hO4 (fun q e => by
              match fa, e, hfa with
              | some ad, e, hfa =>
                have e2 : ad.block = q := by simpa [Value.ownBlock] using e
                have h1 := hfa ad rfl
                have hz5 : W.heap.size ≤ w5.heap.size := by
                  rcases Nat.lt_or_ge w5.heap.size W.heap.size with hlt | hge
                  · have h8 := hk5 w5.heap.size (by have := s2.size; omega) hlt
                    rw [Array.getElem?_eq_none (Nat.le_refl _)] at h8
                    rw [Array.getElem?_eq_getElem hlt] at h8
                    cases h8
                  · exact hge
                exact (hW'.block q (by omega)).trans ((hk5 q (by omega) (by omega)).trans (hf.block q (by omega) (by omega)))
              | none, e, _ => simp [Value.ownBlock] at e)
            have hB4' : Byt W' fa n yy := fun j hj => by
              obtain ⟨q, off, e, hcc⟩ := hBW j hj
              have hlt := World.block_lt_of_cell? _ _ hcc
              have hge : Wc.heap.size ≤ q := (hfa _ e).1
              have h5 : w5.cell? ⟨q, off + j, none⟩ = some (.int .u8 (yy j : Nat)) := by rw [World.cell?_of_block (w := W) (a := ⟨q, off + j, none⟩) (hk5 q (Nat.le_trans z1 hge) hlt)]; exact hcc
              exact ⟨q, off, e, cel_on hW' h5⟩
            exact ⟨hr'.cell (i := 0) (by decide), hr'.cell (i := 1) (by decide), told_went (w := w2) (F := F) (F' := F') (w5 := w5) s1 bm1 bm2 bm3 hW' hT x ok fa b n fc d yy hOW' (fun q e => ⟨by have := hfa q e; omega, s1.mkd (hmk5 q e), fun hf => by have := (HBK.out.1.ge _ hf).2; have := hfa q e; omega⟩) hB4' (hB5.on hW') hn s3 s4⟩
          have hbd : Below w2.heap.size w2 w2.drew := (Below.refl _ _).drew
          have hba : Below w2.heap.size w2 (w2.alloc (.cells #[.int .i64 0, .slice none 0 0] 70)).drew := ((Below.refl _ _).alloc (Nat.le_refl _) _).drew
          have hraw : (w2.alloc (.cells #[.int .i64 0, .slice none 0 0] 70)).drew.rowIs w2.heap.size 70 2 (fun i => (#[Value.int .i64 0, .slice none 0 0])[i]!) := flZ_row w2
          have hza : (w2.alloc (.cells #[.int .i64 0, .slice none 0 0] 70)).drew.heap.size = w2.heap.size + 1 := by simp
          have HA : Hid (Calls Try.prog 20 #[.pointer (some ⟨nb, 0, none⟩), .int .i64 at'] (w2.alloc (.cells #[.int .i64 0, .slice none 0 0] 70)).drew fun e w4 => ∃ (x : Int) (fa : Option Addr) (n fc : Nat) (ok : Bool), e = .returned (.tuple #[.agg #[.int .i64 x, .slice fa n fc], .bool ok]) ∧ w4.cell? ⟨w2.heap.size, 0, none⟩ = some (.int .i64 0) ∧ w4.cell? ⟨w2.heap.size, 1, none⟩ = some (.slice none 0 0) ∧ w4.frozen? ⟨w2.heap.size, 0, none⟩ = false ∧ w4.frozen? ⟨w2.heap.size, 1, none⟩ = false ∧
              Hid (((w4.setCell ⟨w2.heap.size, 0, none⟩ (.int .i64 x)).setCell ⟨w2.heap.size, 1, none⟩ (.slice fa n fc)).cell? ⟨w.heap.size, 2, none⟩ = some (.int .i64 at') ∧ Hid (Calls Try.prog 29 #[.pointer (some ⟨rb, 0, none⟩), .int .i64 at'] ((w4.setCell ⟨w2.heap.size, 0, none⟩ (.int .i64 x)).setCell ⟨w2.heap.size, 1, none⟩ (.slice fa n fc)) fun e w5 => ∃ (b : Option Addr) (d : Nat), e = .returned (.tuple #[.agg #[.int .i64 x, .slice b n d], .bool ok]) ∧ Hid (∀ W', Below w5.heap.size w5 W' → W'.cell? ⟨w2.heap.size, 0, none⟩ = some (.int .i64 x) ∧ W'.cell? ⟨w2.heap.size, 1, none⟩ = some (.slice fa n fc) ∧ Hid (Calls Try.prog 28 #[.pointer (some ⟨sb, 0, none⟩), .agg #[.int .i64 x, .slice fa n fc], .bool ok, .agg #[.int .i64 x, .slice b n d], .bool ok] W' fun e w6 => e = .returned (.bool true) ∧ WentM W00.heap.size sb bk k (L + 1) T nv vv F G w2 w6))))) := (HS.out _ hba).mono fun e w4 ⟨x, fa, n, fc, ok, he, hk4, hz4, hr⟩ => by
            have hr4 := hraw.of_block (hk4 _ (Nat.le_refl _) (by omega))
            refine ⟨x, fa, n, fc, ok, he, hr4.cell (i := 0) (by decide), hr4.cell (i := 1) (by decide), hr4.frozen 0, hr4.frozen 1, hr.out _ w2.heap.size ⟨rfl, rfl, rfl, by simp [World.setCell], fun q hq hne => (Below.heap_setCell _ _ _ _ hne).trans (Below.heap_setCell _ _ _ _ hne)⟩ (Nat.le_refl _) (.inl (by omega)) ?_⟩
            refine ((hr4.set 0 (.int .i64 x)).set 1 (.slice fa n fc)).congr (fun i hi => ?_)
            match i, hi with
            | 0, _ => rfl
            | 1, _ => rfl
          have HBD : Hid (Calls Try.prog 20 #[.pointer (some ⟨nb, 0, none⟩), .int .i64 at'] w2.drew fun e w4 => ∃ (x : Int) (fa : Option Addr) (n fc : Nat) (ok : Bool), e = .returned (.tuple #[.agg #[.int .i64 x, .slice fa n fc], .bool ok]) ∧
              Hid ((w4.alloc (.cells #[.int .i64 x, .slice fa n fc] 70)).cell? ⟨w.heap.size, 2, none⟩ = some (.int .i64 at') ∧ Hid (Calls Try.prog 29 #[.pointer (some ⟨rb, 0, none⟩), .int .i64 at'] (w4.alloc (.cells #[.int .i64 x, .slice fa n fc] 70)) fun e w5 => ∃ (b : Option Addr) (d : Nat), e = .returned (.tuple #[.agg #[.int .i64 x, .slice b n d], .bool ok]) ∧ Hid (∀ W', Below w5.heap.size w5 W' → W'.cell? ⟨w4.heap.size, 0, none⟩ = some (.int .i64 x) ∧ W'.cell? ⟨w4.heap.size, 1, none⟩ = some (.slice fa n fc) ∧ Hid (Calls Try.prog 28 #[.pointer (some ⟨sb, 0, none⟩), .agg #[.int .i64 x, .slice fa n fc], .bool ok, .agg #[.int .i64 x, .slice b n d], .bool ok] W' fun e w6 => e = .returned (.bool true) ∧ WentM W00.heap.size sb bk k (L + 1) T nv vv F G w2 w6))))) := (HS.out _ hbd).mono fun e w4 ⟨x, fa, n, fc, ok, he, hk4, hz4, hr⟩ =>
            ⟨x, fa, n, fc, ok, he, hr.out _ w4.heap.size (Fr.of_below ((Below.refl _ _).alloc (Nat.le_refl _) _)) hz4 (.inr (Nat.le_refl _)) (row2_alloc w4 _ _ _)⟩
          have b2d : w2.drew.cell? ⟨w.heap.size, 2, none⟩ = some (.int .i64 at') := b2
          have b2e : (w2.alloc (.cells #[.int .i64 0, .slice none 0 0] 70)).drew.cell? ⟨w.heap.size, 2, none⟩ = some (.int .i64 at') := cel_on hba b2
          have b2f : (w2.alloc (.cells #[.int .i64 0, .slice none 0 0] 70)).cell? ⟨w.heap.size, 2, none⟩ = some (.int .i64 at') := b2e
          clear b0 b1 b3 b4 cn cv HS hbd hba hraw hza
          go_upto_region 19 with fail
          go_cut [14, 15] from 18 (fun s10 s11 wx => ∃ (x : Int) (fa : Option Addr) (n fc : Nat) (ok : Bool) (fb : Nat), s10 = .pointer (some ⟨fb, 0, none⟩) ∧ s11 = .bool ok ∧ Hid (wx.cell? ⟨w.heap.size, 2, none⟩ = some (.int .i64 at') ∧ Hid (Calls Try.prog 29 #[.pointer (some ⟨rb, 0, none⟩), .int .i64 at'] wx fun e w5 => ∃ (b : Option Addr) (d : Nat), e = .returned (.tuple #[.agg #[.int .i64 x, .slice b n d], .bool ok]) ∧ Hid (∀ W', Below w5.heap.size w5 W' → W'.cell? ⟨fb, 0, none⟩ = some (.int .i64 x) ∧ W'.cell? ⟨fb, 1, none⟩ = some (.slice fa n fc) ∧ Hid (Calls Try.prog 28 #[.pointer (some ⟨sb, 0, none⟩), .agg #[.int .i64 x, .slice fa n fc], .bool ok, .agg #[.int .i64 x, .slice b n d], .bool ok] W' fun e w6 => e = .returned (.bool true) ∧ WentM W00.heap.size sb bk k (L + 1) T nv vv F G w2 w6)))))
          case first =>
            go_region_law (first
              | (go_simp; go_at_call 20; with_reducible refine HA.out.mono ?_; rintro e w4 ⟨x, fa, n, fc, ok, rfl, x0, x1, z0, z1, HRS⟩)
              | (go_simp; go_at_call 20; with_reducible refine HBD.out.mono ?_; rintro e w4 ⟨x, fa, n, fc, ok, rfl, HRS⟩))
            all_goals
              go_wp2_with fail
              go_meet
              case rel => go_light; exact ⟨x, fa, n, fc, ok, _, rfl, rfl, HRS⟩
          case rest =>
            obtain ⟨x, fa, n, fc, ok, fb, rfl, rfl, HX⟩ := hcut
            obtain ⟨b2, HRF⟩ := HX.out
            clear HX b2d b2e b2f HA HBD
            go_wp2_with fail
            refine HRF.out.mono ?_
            rintro e w5 ⟨gb, gd, rfl, HTD⟩
            obtain ⟨W6, HW6⟩ : ∃ W, Hid (w5.alloc (.cells #[.int .i64 x, .slice gb n gd] 70) = W) := ⟨_, rfl⟩
            have hb6 : Below w5.heap.size w5 W6 := by rw [← HW6.out]; exact (Below.refl _ _).alloc (Nat.le_refl _) _
            have hr6 := row2_alloc w5 (.int .i64 x) (.slice gb n gd) 70
            rw [HW6.out] at hr6
            have v0 : W6.cell? ⟨w5.heap.size, 0, none⟩ = some (.int .i64 x) := hr6.cell (i := 0) (by decide)
            have v1 : W6.cell? ⟨w5.heap.size, 1, none⟩ = some (.slice gb n gd) := hr6.cell (i := 1) (by decide)
            obtain ⟨u0, u1, HT⟩ := HTD.out W6 hb6
            clear HTD hb6 hr6 HRF
            go_upto_region 21 with fail
            rw [HW6.out]
            go_wp2_with fail
            refine HT.out.mono ?_
            rintro e w7 ⟨rfl, hG⟩
            have HG7 : Hid (WentM W00.heap.size sb bk k (L + 1) T nv vv F G w2 w7) := hG
            clear hG HT u0 u1 v0 v1
            go_wp2_with fail
            go_meet
            case rel => go_light; exact ⟨rfl, HG7⟩
        by_cases d4 : dd = 4
        · obtain rfl : dd = 4 := d4
          have HS : Hid (Calls Try.prog 30 #[.pointer (some ⟨nb, 0, none⟩), .int .i64 at'] w2.drew fun e w4 => ∃ ok : Bool, e = .returned (.bool ok) ∧ w4.cell? ⟨w.heap.size, 2, none⟩ = some (.int .i64 at') ∧
              Hid (Calls Try.prog 31 #[.pointer (some ⟨rb, 0, none⟩), .int .i64 at'] w4 fun e w5 => e = .returned (.bool ok) ∧ w5.cell? ⟨w.heap.size, 2, none⟩ = some (.int .i64 at') ∧ Hid (Went W00.heap.size sb bk true k (L + 1) nv vv F w2 w5))) := by
            have h3d : StIs w2.drew W00.heap.size sb bk true P nv vv F := HH.out.later (fun _ _ => rfl)
            obtain ⟨nb', rb', en', ev', hc⟩ := h3d.drop HWW.out.size hk HL.out HP.out
            obtain ⟨en, ev⟩ := HEN.out
            obtain rfl : nb = nb' := by rw [en] at en'; simpa using en'
            obtain rfl : rb = rb' := by rw [ev] at ev'; simpa using ev'
            have hbd : Below w2.heap.size w2 w2.drew := (Below.refl _ _).drew
            refine (hc at').mono fun e w4 ⟨ok, he, ⟨G, hM4⟩, hr⟩ => ⟨ok, he, (HC.out w4 G (Mv.after hbd hM4)).1, hr.out.mono fun e w5 ⟨he5, hWt⟩ => ?_⟩
            obtain ⟨P', F', s1, s2, s3, s4⟩ := hWt.is
            have hM : Mv (SFt sb F) (SFt sb F') w2 w5 := Mv.after hbd s2
            exact ⟨he5, (HC.out w5 _ hM).1, P', F', s1, hM, s3, s4⟩
          clear b0 b1 b3 b4 cn cv
          go_upto_region 23 with fail
          go_region_held3 (fun W => W.cell? ⟨w.heap.size, 2, none⟩ = some (.int .i64 at'))
            (first | exact b2 | exact hv4 | exact hv5)
            (first
              | (go_at_call 30; with_reducible refine HS.out.mono ?_; rintro e w4 ⟨ok, rfl, hv4, HRS⟩)
              | (go_at_call 31; with_reducible refine HRS.out.mono ?_; rintro e w5 ⟨rfl, hv5, HG5⟩))
          all_goals
            clear HS HRS hv4 hv5
            have HG5M : Hid (WentM W00.heap.size sb bk k (L + 1) T nv vv F G w2 w5) := HG5.out.m HBK.out.1 HBK.out.2
            go_wp2_with fail
            go_meet
            case rel => go_light; exact ⟨rfl, HG5M⟩
        by_cases d5 : dd = 5
        · obtain rfl : dd = 5 := d5
          have HS : Hid (Calls Try.prog 32 #[.pointer (some ⟨nb, 0, none⟩), .int .i64 at'] w2.drew fun e w4 => ∃ ok : Bool, e = .returned (.bool ok) ∧ w4.cell? ⟨w.heap.size, 2, none⟩ = some (.int .i64 at') ∧
              Hid (Calls Try.prog 33 #[.pointer (some ⟨rb, 0, none⟩), .int .i64 at'] w4 fun e w5 => e = .returned (.bool ok) ∧ w5.cell? ⟨w.heap.size, 2, none⟩ = some (.int .i64 at') ∧ Hid (Went W00.heap.size sb bk true k (L + 1) nv vv F w2 w5))) := by
            have h3d : StIs w2.drew W00.heap.size sb bk true P nv vv F := HH.out.later (fun _ _ => rfl)
            obtain ⟨nb', rb', en', ev', hc⟩ := h3d.doub HWW.out.size hk HL.out HP.out
            obtain ⟨en, ev⟩ := HEN.out
            obtain rfl : nb = nb' := by rw [en] at en'; simpa using en'
            obtain rfl : rb = rb' := by rw [ev] at ev'; simpa using ev'
            have hbd : Below w2.heap.size w2 w2.drew := (Below.refl _ _).drew
            refine (hc at').mono fun e w4 ⟨ok, he, ⟨G, hM4⟩, hr⟩ => ⟨ok, he, (HC.out w4 G (Mv.after hbd hM4)).1, hr.out.mono fun e w5 ⟨he5, hWt⟩ => ?_⟩
            obtain ⟨P', F', s1, s2, s3, s4⟩ := hWt.is
            have hM : Mv (SFt sb F) (SFt sb F') w2 w5 := Mv.after hbd s2
            exact ⟨he5, (HC.out w5 _ hM).1, P', F', s1, hM, s3, s4⟩
          clear b0 b1 b3 b4 cn cv
          go_upto_region 25 with fail
          go_region_held3 (fun W => W.cell? ⟨w.heap.size, 2, none⟩ = some (.int .i64 at'))
            (first | exact b2 | exact hv4 | exact hv5)
            (first
              | (go_at_call 32; with_reducible refine HS.out.mono ?_; rintro e w4 ⟨ok, rfl, hv4, HRS⟩)
              | (go_at_call 33; with_reducible refine HRS.out.mono ?_; rintro e w5 ⟨rfl, hv5, HG5⟩))
          all_goals
            clear HS HRS hv4 hv5
            have HG5M : Hid (WentM W00.heap.size sb bk k (L + 1) T nv vv F G w2 w5) := HG5.out.m HBK.out.1 HBK.out.2
            go_wp2_with fail
            go_meet
            case rel => go_light; exact ⟨rfl, HG5M⟩
        have o1 : (dd == 1) = false := by simpa using d1
        have o2 : (dd == 2) = false := by simpa using d2
        have o3 : (dd == 3) = false := by simpa using d3
        have o4 : (dd == 4) = false := by simpa using d4
        have o5 : (dd == 5) = false := by simpa using d5
        have HG : Hid (WentM W00.heap.size sb bk k (L + 1) T nv vv F G w2 w2) := (HH.out.stay HL.out (Nat.le_succ L) HP.out (Below.refl _ _)).m HBK.out.1 HBK.out.2
        go_wp2_with fail
        go_meet
        case rel => go_light; exact ⟨rfl, HG⟩
      case rest =>
        obtain ⟨rfl, HG⟩ := hcut
        obtain ⟨P', F', G', q1, q2, q3, ⟨m', hm'⟩, _, _⟩ := HG.out
        obtain ⟨nb', rb', en', ev', L1, L2, L3, L4⟩ := q1.count hk hm'
        obtain ⟨en, ev⟩ := HEN.out
        obtain rfl : nb = nb' := by rw [en] at en'; simpa using en'
        obtain rfl : rb = rb' := by rw [ev] at ev'; simpa using ev'
        have HE : Hid (PlayedM W00.heap.size sb bk (L + 1) T F G w wc) := HG.out.played HB1.out
        clear q1 q2 q3 hm' en ev en' ev' HG cn cv b0 b1 b2 b3 b4
        go_wp2_with fail
        refine L1.out.mono ?_
        rintro e w3 ⟨rfl, e3⟩
        subst e3
        go_wp2_with fail
        refine L2.out.mono ?_
        rintro e w4 ⟨rfl, e4⟩
        subst e4
        go_wp2_with fail
        refine L3.out.mono ?_
        rintro e w5 ⟨rfl, e5⟩
        subst e5
        go_wp2_with fail
        refine L4.out.mono ?_
        rintro e w6 ⟨rfl, e6⟩
        subst e6
        go_wp2_with fail
        go_ret
        exact ⟨rfl, HE.out⟩
end Go.Proofs.Ytgpmoakfbhcidaa
