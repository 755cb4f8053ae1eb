/- The walk of CodeFresh. -/
import Derived.Test.YtbmdnlomhnodeabDoorFreshM
import Derived.Test.YtbmdnlomhnodeabDoorOpsIs
namespace Go.Proofs.YtbmdnlomhnodeabDoor
open Go.RowKit
set_option maxRecDepth 100000

/-- An operation that yields a value in whatever world, by its run. -/
theorem oper_run {P : Program} {o : Oper} {a : Act} {w : World} {K : Act → World → Prop} {Q : Exit → Act → World → Prop} (v : Value) (hrun : (execOp a.eval o).run P w = .ok (.value v) w) (h : K (a.put o.dst v) w) : Oper.wp P o a w K Q := by
  unfold Oper.wp
  rw [hrun]
  exact h
theorem St.mono {w1 w : World} {n : Nat} {z : Nat → Nat} {ea : Option Addr} {hc wb rb hb eb lk bk : Nat} {v hv : Value} {l : List Nat} {atR badR atE badE : Nat} {Q : Nat → Prop} {S S' : Nat} {p : Option Nat} {po : Obj} (h : St w1 w n z ea hc wb rb hb eb lk bk v hv l atR badR atE badE Q S p po) (hS : S ≤ S') : St w1 w n z ea hc wb rb hb eb lk bk v hv l atR badR atE badE Q S' p po := by
  obtain ⟨n', GA, WA, gl, GC, WC, X, gv, wv, nb, A, ln, C, M, bv, ov, at', turn, done, used, hL, hB, h1, h2, h3, hQ⟩ := h.lb.ex
  exact ⟨h.since, h.pair, h.rd, h.ey, ⟨n', GA, WA, gl, GC, WC, X, gv, wv, nb, A, ln, C, M, bv, ov, at', turn, done, used, hL, hB, by omega, h2, h3, hQ⟩, h.dj, h.lo, h.pc⟩

set_option maxHeartbeats 12800000 in
set_option maxRecDepth 100000 in
theorem fresh_walk (a0 : Option Addr) (n cap0 : Nat) (a1 : Option Addr) (len1 cap1 : Nat) (x : Nat → Nat) (oa : Option Addr) (ob oo olen ocap : Nat) (F : Nat → OpD) (w : World) (holen : olen ≤ 281474976710656) (hW : Wid w) (hoa : 0 < olen → oa = some ⟨ob, oo, none⟩) (hO : Ops w ob oo olen F) (hMm : ∀ i, i < olen → (F i).M ≤ 9223372036854775807)
    (hby : Byt w a0 cap0 x) (hx : ∀ j, x j < 256) (hnc : n ≤ cap0) (hn : n ≤ 1048576) (hcm : cap0 ≤ 140737488351232) :
    Calls Tryd.prog 7 #[.agg #[.slice a0 n cap0, .slice a1 len1 cap1, .slice oa olen ocap]] w fun e w' => e = .returned (.bool true) ∧ w.Since w.heap.size w' := by
  have hs1 : w.Since w.heap.size (w.alloc (.cells #[.slice a0 n cap0, .slice a1 len1 cap1, .slice oa olen ocap] 26)) := (World.Since.refl _ _).alloc (Nat.le_refl _) _
  have e0 : (w.alloc (.cells #[.slice a0 n cap0, .slice a1 len1 cap1, .slice oa olen ocap] 26)).heap.size = w.heap.size + 1 := by simp
  have box0 : (w.alloc (.cells #[.slice a0 n cap0, .slice a1 len1 cap1, .slice oa olen ocap] 26)).cell? ⟨w.heap.size, 0, none⟩ = some (.slice a0 n cap0) := by simp
  have box2 : (w.alloc (.cells #[.slice a0 n cap0, .slice a1 len1 cap1, .slice oa olen ocap] 26)).cell? ⟨w.heap.size, 2, none⟩ = some (.slice oa olen ocap) := by simp
  go_enter Tryd.func7, Tryd.ntmps7
  go_upto_region 1 with fail
  generalize w.alloc (.cells #[.slice a0 n cap0, .slice a1 len1 cap1, .slice oa olen ocap] 26) = w1 at *
  have hfinW : ∀ W, w1.Since w1.heap.size W → w.Since w.heap.size W := fun W h => hs1.trans (since_mono h hs1.size)
  have hO1 := hO.since hs1
  have hW1 := hW.since hs1
  have hby1 := hby.since hs1
  generalize hsb : w.heap.size = sb at *
  have hbx : ∀ W, w1.Since w1.heap.size W → W.cell? ⟨sb, 0, none⟩ = some (.slice a0 n cap0) ∧ W.cell? ⟨sb, 2, none⟩ = some (.slice oa olen ocap) := fun W h =>
    ⟨by rw [h.cell (a := ⟨sb, 0, none⟩) (by show sb < w1.heap.size; omega)]; exact box0, by rw [h.cell (a := ⟨sb, 2, none⟩) (by show sb < w1.heap.size; omega)]; exact box2⟩
  have hE : (∃ hb0 ho, a0 = some ⟨hb0, ho, none⟩) ∨ (n = 0 ∧ cap0 = 0) := by
    rcases Nat.eq_zero_or_pos cap0 with e | e
    · exact Or.inr ⟨by omega, e⟩
    · obtain ⟨b, off, e', _⟩ := hby 0 e
      exact Or.inl ⟨b, off, e'⟩
  clear hO hW hs1 hby box0 box2 e0
  go_wp2_with fail
  refine (new_w w1).mono ?_
  rintro e w2 ⟨rfl, s12, e2, hI⟩
  have hz2 : w1.heap.size < w2.heap.size := by omega
  clear e2
  have c20 := (hbx w2 s12).1
  have hcp := copy_any a0 n cap0 x w2 (by omega) ((hby1.le hnc).since s12)
  go_wp2_with fail
  refine hcp.mono ?_
  rintro e w3 ⟨rfl, s23, e3, hrow3⟩
  clear e3
  have hz3 := s23.size
  have hrd := read_any (some ⟨w2.heap.size, 0, none⟩) n n x w3 (by omega) (Byt.of_row hrow3) hx
  clear hcp c20
  go_wp2_with fail
  refine hrd.mono ?_
  rintro e w4 ⟨rb, rfl, hrb, s34, hR⟩
  have s13 := s12.trans (since_mono s23 s12.size)
  have s14 := s13.trans (since_mono s34 s13.size)
  have s24 := s23.trans (since_mono s34 s23.size)
  have c40 := (hbx w4 s14).1
  have z12 := s12.size
  have z13 := s13.size
  obtain ⟨Q0, hS0⟩ := st_init (ea := a0) (hc := cap0) s14 (row_since (hI (fun _ => 0)).cell s24) (Nat.le_refl _) hR (by omega) z13 (by omega) (by omega) hE (hby1.le hnc) hnc hcm (.cells #[] 0)
  simp only [bookZero] at hS0
  clear hrd hI hrow3 hR hrb s34 s24 s23 s12
  go_upto_region 8 with fail
  refine oper_run (.agg #[.slice none 0 0, .slice none 0 0, .int .i64 0, .slice none 0 0, .slice none 0 0, .int .i64 0, .slice none 0 0, .slice none 0 0, .int .i64 0, .slice none 0 0, .slice none 0 0, .int .i64 0, .slice none 0 0, .slice none 0 0, .int .i64 0, .slice none 0 0, .slice none 0 0, .int .i64 0, .slice none 0 0, .slice none 0 0, .int .i64 0, .slice none 0 0, .slice none 0 0, .int .i64 0, .slice none 0 0, .slice none 0 0, .int .i64 0, .slice none 0 0, .slice none 0 0, .int .i64 0, .slice none 0 0, .slice none 0 0, .int .i64 0, .slice none 0 0, .slice none 0 0, .int .i64 0, .int .i64 0, .int .i64 0, .int .i64 0]) (by kernel_rfl) ?_
  go_upto_region 8 with fail
  generalize ((w4.alloc (.cells #[.slice a0 n cap0, .int .i64 0, .int .i64 0] 51)).alloc (.cells #[.slice none 0 0, .slice none 0 0, .int .i64 0, .slice none 0 0, .slice none 0 0, .int .i64 0, .slice none 0 0, .slice none 0 0, .int .i64 0, .slice none 0 0, .slice none 0 0, .int .i64 0, .slice none 0 0, .slice none 0 0, .int .i64 0, .slice none 0 0, .slice none 0 0, .int .i64 0, .slice none 0 0, .slice none 0 0, .int .i64 0, .slice none 0 0, .slice none 0 0, .int .i64 0, .slice none 0 0, .slice none 0 0, .int .i64 0, .slice none 0 0, .slice none 0 0, .int .i64 0, .slice none 0 0, .slice none 0 0, .int .i64 0, .slice none 0 0, .slice none 0 0, .int .i64 0, .int .i64 0, .int .i64 0, .int .i64 0] 73)).alloc (.cells #[.slice none 0 0, .slice none 0 0] 76) = w7 at *
  generalize w3.heap.size = hb at *
  generalize w4.heap.size + 1 + 1 = lk at *
  generalize w4.heap.size + 1 = bk at *
  generalize w4.heap.size = eb at *
  generalize hwb : w1.heap.size = wb at *
  clear c40 z12 z13 s13 s14 hz2 hz3
  go_wp2_with fail
  go_loopg [8, 9] 400 (fun q s8 s9 wx => ∃ (i : Nat) (v hv : Value) (l : List Nat) (at' bad : Nat) (Q : Nat → Prop) (p : Option Nat) (po : Obj), i ≤ olen ∧ i ≤ 400 ∧ q = 400 - i ∧ hv = s8 ∧ s9 = .int .i64 i ∧ St w1 wx n x a0 cap0 wb rb hb eb lk bk v hv l at' bad at' bad Q (4 * i) p po ∧ l.length ≤ i * 1048586)
  case atStart => exact ⟨0, _, _, _, _, _, _, _, _, Nat.zero_le _, by omega, rfl, rfl, rfl, hS0, Nat.zero_le _⟩
  case round =>
    obtain ⟨i, v, hv, l, at', bad, Q, p, po, hi, hi4, rfl, rfl, rfl, hS, hlen⟩ := hrel
    clear hS0
    have b2 := (hbx wr (hwb ▸ hS.since)).2
    by_cases hlt : i < olen ∧ i < 400
    · obtain ⟨hlo, hl4⟩ := hlt
      have hoa1 := hoa (by omega)
      subst hoa1
      have hOr := hO1.since hS.since
      obtain ⟨c0, c1, c2, c3, c4⟩ := hOr.c i hlo
      have hz1 : (i : Int) < (olen : Int) := by omega
      have hz2 : (i : Int) < 400 := by omega
      have hMm' := hMm i hlo
      have hwr : ∀ W (v hv : Value) (l : List Nat), w1.Since w1.heap.size W → Pair W wb w1.heap.size v hv l l → l.length ≤ i * 1048586 → Calls Tryd.prog 36 #[.pointer (some ⟨wb, 0, none⟩), hv, .agg #[.int .i64 (F i).K, .int .i64 (F i).WH, .int .i64 (F i).M, .int .u64 (F i).N, .slice (F i).ba (F i).bl (F i).bc]] W fun e w' => ∃ v' hv' l', e = .returned (.tuple #[hv', .bool true]) ∧ Did w1 W w' wb v hv v' hv' l' ((i + 1) * 1048586) := fun W v hv l hs hp hl => by
        have hbl := hO1.bl i hlo
        have hmul : i * 1048586 ≤ 400 * 1048586 := Nat.mul_le_mul_right _ hi4
        exact (writes_any w1 W wb v hv l (F i).K (F i).WH (F i).M (F i).N (F i).ba (F i).bl (F i).bc (F i).zb hs hp hW1 (hO1.byt i hlo) (hO1.nil i hlo) (hO1.n i hlo) (by omega)).mono (fun e w' ⟨v', hv', l', he, hd⟩ => ⟨v', hv', l', he, hd.since, hd.pair, hd.move, by have := hd.len; rw [Nat.succ_mul]; omega⟩)
      clear hOr
      generalize (F i).K = K at hwr c0
      generalize (F i).WH = WH at hwr c1
      generalize hM : (F i).M = M at hwr c2 hMm'
      generalize (F i).N = N at hwr c3
      generalize (F i).ba = ba at hwr c4
      generalize (F i).bl = bl at hwr c4
      generalize (F i).bc = bc at hwr c4
      clear hM
      have hSa := hS.newp (.cells #[.int .i64 K, .int .i64 WH, .int .i64 M, .int .u64 N, .slice ba bl bc] 33)
      go_upto_region 13 with fail
      generalize wr.alloc (.cells #[.int .i64 K, .int .i64 WH, .int .i64 M, .int .u64 N, .slice ba bl bc] 33) = wa at *
      generalize wr.heap.size = pb at *
      clear c0 c1 c2 c3 c4 hS b2
      have p0 : wa.cell? ⟨pb, 0, none⟩ = some (.int .i64 K) := hSa.cellp 0
      have p1 : wa.cell? ⟨pb, 1, none⟩ = some (.int .i64 WH) := hSa.cellp 1
      have p2 : wa.cell? ⟨pb, 2, none⟩ = some (.int .i64 M) := hSa.cellp 2
      have p3 : wa.cell? ⟨pb, 3, none⟩ = some (.int .u64 N) := hSa.cellp 3
      have p4 : wa.cell? ⟨pb, 4, none⟩ = some (.slice ba bl bc) := hSa.cellp 4
      have hw2 := hwr wa v hv l hSa.since hSa.pair hlen
      clear hwr
      go_wp2_with fail
      refine hw2.mono ?_
      rintro e w3 ⟨v', hv', l', rfl, hd⟩
      have hS3 := hSa.write hd.pair hd.move
      have hlen' := hd.len
      obtain ⟨fa, fc, rfl⟩ := own_form hd.pair.own
      have d30 : w3.cell? ⟨pb, 0, none⟩ = some (.int .i64 K) := hS3.cellp 0
      have d32 : w3.cell? ⟨pb, 2, none⟩ = some (.int .i64 M) := hS3.cellp 2
      have hlb : l'.length ≤ 419434400 := Nat.le_trans hlen' (by have : (i + 1) * 1048586 ≤ 400 * 1048586 := Nat.mul_le_mul_right _ (by omega); omega)
      clear hw2 hd hSa p0 p1 p2 p3 p4 hlen
      by_cases hK5 : K = 5
      · subst hK5
        have hMi := hMm'
        have hr := bytes_r rb hb n at' bad M x w3 hS3.rd hMi
        have hAle := bytesAns_le x n M.toNat at' bad
        have hyt : ∀ W, EY W eb a0 cap0 n x at' bad → _ := fun W hy => yText eb a0 cap0 n at' bad M x W hy hMi (by omega)
        generalize bytesAns x n M.toNat at' bad = V at *
        obtain ⟨A, fr, at2, bad2⟩ := V
        replace hAle : A ≤ n := hAle
        have HY := hide hyt
        clear hyt
        go_wp2_with fail
        refine hr.mono ?_
        rintro e w4 ⟨⟨ta, rfl, htx⟩, hb4, hI4⟩
        obtain ⟨hot, hft⟩ := own_of_txt htx hS3.hB (by omega)
        have hS4 := hS3.read hb4 hI4
        have d42 : w4.cell? ⟨pb, 2, none⟩ = some (.int .i64 M) := hS4.cellp 2
        clear hr htx
        go_wp2_with fail
        refine ((unhide HY) w4 hS4.ey).mono ?_
        rintro e w5 ⟨⟨tb, rfl, hty⟩, hb5, hI5⟩
        have hS5 := hS4.eye hb5 hI5
        have hebl := (hS3.dj.lt 2 eb (by decide) rfl).2
        have hot5 := own_keep hot (w' := w5) (fun k e => hb5.block k (own_lt hot k e) (by
          obtain ⟨ad, he, e'⟩ := own_slice e
          have := hft ad he
          omega))
        obtain ⟨hby5, hnn5, hlw5⟩ := txt_byt' hty
        have hadd := st_add hS5 ta A A (fun j => x (fr + j)) (by omega) (by omega) hot5 (fun ad he j hj hf => by
          have h6 := hft ad he
          have h7 := (hS3.dj.lt j _ hj hf).2
          omega) tb A hby5 (fun e => (hnn5 e).1) (fun b off he hf => by
          have h6 := hlw5 b off he
          have h7 := (hS4.lb.lt b hf).2
          omega)
        clear HY hty hby5 hnn5 hlw5 hot hot5 hft
        go_wp2_with fail
        refine hadd.mono ?_
        rintro e w6 ⟨rfl, Q6, hS6⟩
        clear hadd
        have d62 : w6.cell? ⟨pb, 2, none⟩ = some (.int .i64 M) := hS6.cellp 2
        have hr2 := raw_r rb hb n at2 bad2 (i5 M : Nat) x w6 hS6.rd (by have := i5_lt M; omega)
        have hAle2 := rawAns_le n (i5 M : Nat) at2 bad2
        have hyr : ∀ W, EY W eb a0 cap0 n x at2 bad2 → _ := fun W hy => yRaw eb a0 cap0 n at2 bad2 (i5 M) x W hy (by have := i5_lt M; omega)
        have hin : ∀ W, _ := fun W => into_5 M W
        generalize rawAns n (i5 M : Nat) at2 bad2 = V2 at *
        generalize i5 M = k5 at *
        obtain ⟨A2, fr2, at3, bad3⟩ := V2
        replace hAle2 : A2 ≤ n := hAle2
        have HY2 := hide hyr
        have HI := hide hin
        clear hyr hin
        go_wp2_with fail
        refine ((unhide HI) w6).mono ?_
        rintro e w6' ⟨rfl, rfl⟩
        go_wp2_with fail
        refine hr2.mono ?_
        rintro e w7' ⟨⟨tc, rfl, htx⟩, hb7, hI7⟩
        obtain ⟨hot, hft⟩ := own_of_txt htx hS6.hB (by omega)
        have hS7 := hS6.read hb7 hI7
        have d72 : w7'.cell? ⟨pb, 2, none⟩ = some (.int .i64 M) := hS7.cellp 2
        clear hr2 htx
        go_wp2_with fail
        refine ((unhide HI) w7').mono ?_
        rintro e w7'' ⟨rfl, rfl⟩
        go_wp2_with fail
        refine ((unhide HY2) _ hS7.ey).mono ?_
        rintro e w8 ⟨⟨td, rfl, hty⟩, hb8, hI8⟩
        have hS8 := hS7.eye hb8 hI8
        have hot8 := own_keep hot (w' := w8) (fun k e => hb8.block k (own_lt hot k e) (by
          obtain ⟨ad, he, e'⟩ := own_slice e
          have := hft ad he
          have := (hS6.dj.lt 2 eb (by decide) rfl).2
          omega))
        obtain ⟨hby8, hnn8, hlw8⟩ := txt_byt' hty
        have hadd := st_add hS8 tc A2 A2 (fun j => x (fr2 + j)) (by omega) (by omega) hot8 (fun ad he j hj hf => by
          have h6 := hft ad he
          have h7 := (hS6.dj.lt j _ hj hf).2
          omega) td A2 hby8 (fun e => (hnn8 e).1) (fun b off he hf => by
          have h6 := hlw8 b off he
          have h7 := (hS7.lb.lt b hf).2
          omega)
        clear HY2 HI hty hby8 hnn8 hlw8 hot hot8 hft
        go_wp2_with fail
        refine hadd.mono ?_
        rintro e w9 ⟨rfl, Q9, hS9⟩
        clear hadd hS8 hS7 hS6 hS5 hS4 hS3 hb8 hI8 hb7 hI7 hb5 hI5 hb4 hI4
        go_wp2_with fail
        go_loopg [15] 2 (fun q s15 wx => ∃ (c : Nat) (Q : Nat → Prop), c ≤ 2 ∧ q = 2 - c ∧ s15 = .int .i64 c ∧ St w1 wx n x a0 cap0 wb rb hb eb lk bk v' (.slice fa l'.length fc) l' at3 bad3 at3 bad3 Q (4 * i + 1 + 1 + c) (some pb) (.cells #[.int .i64 5, .int .i64 WH, .int .i64 M, .int .u64 N, .slice ba bl bc] 33))
        case atStart => exact ⟨0, Q9, by omega, rfl, rfl, hS9⟩
        case round =>
          obtain ⟨c, Qc, hc, rfl, rfl, hSc⟩ := hrel
          clear hS9
          by_cases hlc : c < 2
          · have hcz : (c : Int) < 2 := by omega
            have hout := out_w wb w1.heap.size v' l'.length _ wr hSc.pair.isl (by omega)
            go_wp2_with fail
            refine hout.mono ?_
            rintro e wo ⟨rfl, so, eo, hro⟩
            clear eo hout
            have hSo := hSc.later so
            obtain ⟨hbh, hnh⟩ := byt_of_own hSo.pair.own
            have hadd := st_add hSo (some ⟨wr.heap.size, 0, none⟩) l'.length l'.length (fun j => l'.getD j 0) (by omega) (by omega) (own_of_row hro hSc.hB (Nat.le_refl _) (by unfold maxLen; omega) (fun j _ => rfl)) (fun ad he j hj hf => by
              cases he
              have h7 := (hSc.dj.lt j wr.heap.size hj hf).2
              omega) fa fc hbh (fun e => (hnh e).1) (fun b off he hf => hSo.dj.dj 0 3 b (by decide) (by decide) (by decide) (Or.inr (Or.inr (by rw [he]; rfl))) hf)
            go_wp2_with fail
            refine hadd.mono ?_
            rintro e wp ⟨rfl, Qp, hSp⟩
            clear hadd hSo hro hbh hnh so hSc
            go_wp2_with fail
            go_roundg (2 - (c + 1))
            case measure => go_light; omega
            case rel => go_light; exact ⟨c + 1, Qp, by omega, rfl, by simp, hSp⟩
          · obtain rfl : c = 2 := by omega
            have hst := st_settle hSc (by omega) 6
            go_wp2_with fail
            refine hst.mono ?_
            rintro e wq ⟨rfl, Qq, hSq⟩
            have hlk := st_look hSq (by omega)
            clear hst hSc
            go_wp2_with fail
            refine hlk.mono ?_
            rintro e wz ⟨rfl, Qz, hSz⟩
            have hSz' := hSz.mono (S' := 4 * (i + 1)) (by omega)
            clear hlk hSq hSz
            go_wp2_with fail
            go_roundg (400 - (i + 1))
            case measure => go_light; omega
            case rel => go_light; exact ⟨i + 1, _, _, _, _, _, _, _, _, by omega, by omega, rfl, rfl, by simp, hSz', hlen'⟩
      by_cases hK6 : K = 6
      · subst hK6
        have hMi := hMm'
        have hr := bytes_r rb hb n at' bad M x w3 hS3.rd hMi
        have hAle := bytesAns_le x n M.toNat at' bad
        have hyt : ∀ W, EY W eb a0 cap0 n x at' bad → _ := fun W hy => yText eb a0 cap0 n at' bad M x W hy hMi (by omega)
        generalize bytesAns x n M.toNat at' bad = V at *
        obtain ⟨A, fr, at2, bad2⟩ := V
        replace hAle : A ≤ n := hAle
        have HY := hide hyt
        clear hyt
        go_wp2_with fail
        refine hr.mono ?_
        rintro e w4 ⟨⟨ta, rfl, htx⟩, hb4, hI4⟩
        obtain ⟨hot, hft⟩ := own_of_txt htx hS3.hB (by omega)
        have hS4 := hS3.read hb4 hI4
        have d42 : w4.cell? ⟨pb, 2, none⟩ = some (.int .i64 M) := hS4.cellp 2
        clear hr htx
        go_wp2_with fail
        refine ((unhide HY) w4 hS4.ey).mono ?_
        rintro e w5 ⟨⟨tb, rfl, hty⟩, hb5, hI5⟩
        have hS5 := hS4.eye hb5 hI5
        have hebl := (hS3.dj.lt 2 eb (by decide) rfl).2
        have hot5 := own_keep hot (w' := w5) (fun k e => hb5.block k (own_lt hot k e) (by
          obtain ⟨ad, he, e'⟩ := own_slice e
          have := hft ad he
          omega))
        obtain ⟨hby5, hnn5, hlw5⟩ := txt_byt' hty
        have hadd := st_add hS5 ta A A (fun j => x (fr + j)) (by omega) (by omega) hot5 (fun ad he j hj hf => by
          have h6 := hft ad he
          have h7 := (hS3.dj.lt j _ hj hf).2
          omega) tb A hby5 (fun e => (hnn5 e).1) (fun b off he hf => by
          have h6 := hlw5 b off he
          have h7 := (hS4.lb.lt b hf).2
          omega)
        clear HY hty hby5 hnn5 hlw5 hot hot5 hft
        go_wp2_with fail
        refine hadd.mono ?_
        rintro e w6 ⟨rfl, Q6, hS6⟩
        clear hadd
        have d62 : w6.cell? ⟨pb, 2, none⟩ = some (.int .i64 M) := hS6.cellp 2
        have hr2 := raw_r rb hb n at2 bad2 (i5 M : Nat) x w6 hS6.rd (by have := i5_lt M; omega)
        have hAle2 := rawAns_le n (i5 M : Nat) at2 bad2
        have hyr : ∀ W, EY W eb a0 cap0 n x at2 bad2 → _ := fun W hy => yRaw eb a0 cap0 n at2 bad2 (i5 M) x W hy (by have := i5_lt M; omega)
        have hin : ∀ W, _ := fun W => into_5 M W
        generalize rawAns n (i5 M : Nat) at2 bad2 = V2 at *
        generalize i5 M = k5 at *
        obtain ⟨A2, fr2, at3, bad3⟩ := V2
        replace hAle2 : A2 ≤ n := hAle2
        have HY2 := hide hyr
        have HI := hide hin
        clear hyr hin
        go_wp2_with fail
        refine ((unhide HI) w6).mono ?_
        rintro e w6' ⟨rfl, rfl⟩
        go_wp2_with fail
        refine hr2.mono ?_
        rintro e w7' ⟨⟨tc, rfl, htx⟩, hb7, hI7⟩
        obtain ⟨hot, hft⟩ := own_of_txt htx hS6.hB (by omega)
        have hS7 := hS6.read hb7 hI7
        have d72 : w7'.cell? ⟨pb, 2, none⟩ = some (.int .i64 M) := hS7.cellp 2
        clear hr2 htx
        go_wp2_with fail
        refine ((unhide HI) w7').mono ?_
        rintro e w7'' ⟨rfl, rfl⟩
        go_wp2_with fail
        refine ((unhide HY2) _ hS7.ey).mono ?_
        rintro e w8 ⟨⟨td, rfl, hty⟩, hb8, hI8⟩
        have hS8 := hS7.eye hb8 hI8
        have hot8 := own_keep hot (w' := w8) (fun k e => hb8.block k (own_lt hot k e) (by
          obtain ⟨ad, he, e'⟩ := own_slice e
          have := hft ad he
          have := (hS6.dj.lt 2 eb (by decide) rfl).2
          omega))
        obtain ⟨hby8, hnn8, hlw8⟩ := txt_byt' hty
        have hadd := st_add hS8 tc A2 A2 (fun j => x (fr2 + j)) (by omega) (by omega) hot8 (fun ad he j hj hf => by
          have h6 := hft ad he
          have h7 := (hS6.dj.lt j _ hj hf).2
          omega) td A2 hby8 (fun e => (hnn8 e).1) (fun b off he hf => by
          have h6 := hlw8 b off he
          have h7 := (hS7.lb.lt b hf).2
          omega)
        clear HY2 HI hty hby8 hnn8 hlw8 hot hot8 hft
        go_wp2_with fail
        refine hadd.mono ?_
        rintro e w9 ⟨rfl, Q9, hS9⟩
        clear hadd hS8 hS7 hS6 hS5 hS4 hS3 hb8 hI8 hb7 hI7 hb5 hI5 hb4 hI4
        go_wp2_with fail
        go_loopg [15] 2 (fun q s15 wx => ∃ (c : Nat) (Q : Nat → Prop), c ≤ 2 ∧ q = 2 - c ∧ s15 = .int .i64 c ∧ St w1 wx n x a0 cap0 wb rb hb eb lk bk v' (.slice fa l'.length fc) l' at3 bad3 at3 bad3 Q (4 * i + 1 + 1 + c) (some pb) (.cells #[.int .i64 6, .int .i64 WH, .int .i64 M, .int .u64 N, .slice ba bl bc] 33))
        case atStart => exact ⟨0, Q9, by omega, rfl, rfl, hS9⟩
        case round =>
          obtain ⟨c, Qc, hc, rfl, rfl, hSc⟩ := hrel
          clear hS9
          by_cases hlc : c < 2
          · have hcz : (c : Int) < 2 := by omega
            have hout := out_w wb w1.heap.size v' l'.length _ wr hSc.pair.isl (by omega)
            go_wp2_with fail
            refine hout.mono ?_
            rintro e wo ⟨rfl, so, eo, hro⟩
            clear eo hout
            have hSo := hSc.later so
            obtain ⟨hbh, hnh⟩ := byt_of_own hSo.pair.own
            have hadd := st_add hSo (some ⟨wr.heap.size, 0, none⟩) l'.length l'.length (fun j => l'.getD j 0) (by omega) (by omega) (own_of_row hro hSc.hB (Nat.le_refl _) (by unfold maxLen; omega) (fun j _ => rfl)) (fun ad he j hj hf => by
              cases he
              have h7 := (hSc.dj.lt j wr.heap.size hj hf).2
              omega) fa fc hbh (fun e => (hnh e).1) (fun b off he hf => hSo.dj.dj 0 3 b (by decide) (by decide) (by decide) (Or.inr (Or.inr (by rw [he]; rfl))) hf)
            go_wp2_with fail
            refine hadd.mono ?_
            rintro e wp ⟨rfl, Qp, hSp⟩
            clear hadd hSo hro hbh hnh so hSc
            go_wp2_with fail
            go_roundg (2 - (c + 1))
            case measure => go_light; omega
            case rel => go_light; exact ⟨c + 1, Qp, by omega, rfl, by simp, hSp⟩
          · obtain rfl : c = 2 := by omega
            have hst := st_settle hSc (by omega) 6
            go_wp2_with fail
            refine hst.mono ?_
            rintro e wq ⟨rfl, Qq, hSq⟩
            have hlk := st_look hSq (by omega)
            clear hst hSc
            go_wp2_with fail
            refine hlk.mono ?_
            rintro e wz ⟨rfl, Qz, hSz⟩
            have hSz' := hSz.mono (S' := 4 * (i + 1)) (by omega)
            clear hlk hSq hSz
            go_wp2_with fail
            go_roundg (400 - (i + 1))
            case measure => go_light; omega
            case rel => go_light; exact ⟨i + 1, _, _, _, _, _, _, _, _, by omega, by omega, rfl, rfl, by simp, hSz', hlen'⟩
      have q5 : (K == 5) = false := by simp; omega
      have q6 : (K == 6) = false := by simp; omega
      have hst := st_settle hS3 (by omega) 6
      go_wp2_with fail
      refine hst.mono ?_
      rintro e wq ⟨rfl, Qq, hSq⟩
      have hlk := st_look hSq (by omega)
      clear hst hS3
      go_wp2_with fail
      refine hlk.mono ?_
      rintro e wz ⟨rfl, Qz, hSz⟩
      have hSz' := hSz.mono (S' := 4 * (i + 1)) (by omega)
      clear hlk hSq hSz
      go_wp2_with fail
      go_roundg (400 - (i + 1))
      case measure => go_light; omega
      case rel => go_light; exact ⟨i + 1, _, _, _, _, _, _, _, _, by omega, by omega, rfl, rfl, by simp, hSz', hlen'⟩
    · have hl4 : (i : Int) < (olen : Int) → ¬ ((i : Int) < 400) := by omega
      have hlb : l.length ≤ 419434400 := Nat.le_trans hlen (by have : i * 1048586 ≤ 400 * 1048586 := Nat.mul_le_mul_right _ hi4; omega)
      obtain ⟨fa, fc, rfl⟩ := own_form hS.pair.own
      have hst : Calls Tryd.prog 41 #[.pointer (some ⟨lk, 0, none⟩), .pointer (some ⟨bk, 0, none⟩), .int .i64 0] wr fun e w' => e = .returned (.bool true) ∧ ∃ Q', St w1 w' n x a0 cap0 wb rb hb eb lk bk v (.slice fa l.length fc) l at' bad at' bad Q' (4 * i) p po := st_settle hS (by omega) 0
      clear hlt hS hlen
      by_cases hio : (i : Int) < (olen : Int)
      all_goals
        try have hl5 := hl4 hio
        clear hl4
        go_wp2_with fail
        refine hst.mono ?_
        rintro e wq ⟨rfl, Qq, hSq⟩
        have hout := out_w wb w1.heap.size v l.length _ wq hSq.pair.isl (by omega)
        clear hst
        go_wp2_with fail
        refine hout.mono ?_
        rintro e wo ⟨rfl, so, eo, hro⟩
        clear eo hout
        have hSo := hSq.later so
        have hbh := (byt_of_own hSo.pair.own).1
        have heq := eq_same (some ⟨wq.heap.size, 0, none⟩) fa l.length l.length fc (fun j => l.getD j 0) wo (Byt.of_row hro) hbh (by omega)
        have hso := hSo.since
        clear hro hbh hSo so hSq
        go_wp2_with fail
        refine heq.mono ?_
        rintro e wz ⟨rfl, mz, rfl⟩
        clear heq
        go_wp2_with fail
        go_ret
        refine ⟨rfl, ?_⟩
        rw [hsb]
        exact hfinW _ (hwb ▸ since_drewN' hso mz)
end Go.Proofs.YtbmdnlomhnodeabDoor
