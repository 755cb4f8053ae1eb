/- The walk of held. -/
import Derived.Test.YtgpmoakfbhcidaaYB5C
namespace Go.Proofs.Ytgpmoakfbhcidaa
open Go.RowKit
set_option maxRecDepth 100000
set_option maxRecDepth 100000

theorem HdX.monoT {W0 w : World} {sb bk xb pb L T T' lo m : Nat} {ov : Value} (h : HdX W0 w sb bk xb pb L T lo m ov) (ht : T ≤ T') : HdX W0 w sb bk xb pb L T' lo m ov := by
  obtain ⟨P, nv, vv, F, fam, h⟩ := h
  exact ⟨P, nv, vv, F, fam, h.st, h.ls, h.sh.mono ht, h.pl, h.ot, h.f0, h.dis, h.below⟩
set_option maxHeartbeats 200000000 in
theorem held_any (r0 r1 : Int) (oa : Option Addr) (oc : Nat) (L : List NOp) (w : World) (hO : NOpsIn w oa L) (hK : ∀ o ∈ L, o.ok w) :
    Calls Try.prog 5 #[.agg #[.int .i64 r0, .int .i64 r1, .slice oa L.length oc]] w fun e w' => e = .returned (.bool true) ∧ Below w.heap.size w w' := by
  obtain ⟨W0, HW0⟩ : ∃ W, Hid (w.alloc (.cells #[.int .i64 r0, .int .i64 r1, .slice oa L.length oc] 25) = W) := ⟨_, rfl⟩
  have hb0 : Below w.heap.size w W0 := by rw [← HW0.out]; exact (Below.refl _ _).alloc (Nat.le_refl _) _
  have hr0 := row3_alloc w (.int .i64 r0) (.int .i64 r1) (.slice oa L.length oc) 25
  rw [HW0.out] at hr0
  have HB0 : Hid (Below w.heap.size w W0) := hb0
  have HO : Hid (NOpsIn W0 oa L ∧ ∀ o ∈ L, o.ok W0) := ⟨hO.on hb0, fun o ho => (hK o ho).on hb0⟩
  obtain ⟨N, HN⟩ : ∃ N, Hid (L.length = N) := ⟨_, rfl⟩
  rw [HN.out] at hr0 HW0 ⊢
  have HC : Hid (∀ W, Below W0.heap.size W0 W → W.cell? ⟨w.heap.size, 0, none⟩ = some (.int .i64 r0) ∧ W.cell? ⟨w.heap.size, 1, none⟩ = some (.int .i64 r1) ∧ W.cell? ⟨w.heap.size, 2, none⟩ = some (.slice oa N oc)) := fun W hb => by
    have := hr0.of_block (hb.block w.heap.size hr0.lt)
    exact ⟨this.cell (i := 0) (by decide), this.cell (i := 1) (by decide), this.cell (i := 2) (by decide)⟩
  clear hO hK hb0 hr0
  go_enter Try.func5, Try.ntmps5
  go_upto_region 1 with fail
  rw [HW0.out]
  go_wp2_with fail
  refine oper_run (.agg #[.slice none 0 0, .slice none 0 0, .int .i64 0, .slice none 0 0, .slice none 0 0, .int .i64 0, .slice none 0 0, .slice none 0 0, .int .i64 0, .slice none 0 0, .slice none 0 0, .int .i64 0, .slice none 0 0, .slice none 0 0, .int .i64 0, .slice none 0 0, .slice none 0 0, .int .i64 0, .slice none 0 0, .slice none 0 0, .int .i64 0, .slice none 0 0, .slice none 0 0, .int .i64 0, .slice none 0 0, .slice none 0 0, .int .i64 0, .slice none 0 0, .slice none 0 0, .int .i64 0, .slice none 0 0, .slice none 0 0, .int .i64 0, .slice none 0 0, .slice none 0 0, .int .i64 0, .int .i64 0, .int .i64 0, .int .i64 0]) (by kernel_rfl) ?_
  obtain ⟨W1, HW1⟩ : ∃ W, Hid (W0.alloc (.cells #[.slice none 0 0, .slice none 0 0, .int .i64 0, .slice none 0 0, .slice none 0 0, .int .i64 0, .slice none 0 0, .slice none 0 0, .int .i64 0, .slice none 0 0, .slice none 0 0, .int .i64 0, .slice none 0 0, .slice none 0 0, .int .i64 0, .slice none 0 0, .slice none 0 0, .int .i64 0, .slice none 0 0, .slice none 0 0, .int .i64 0, .slice none 0 0, .slice none 0 0, .int .i64 0, .slice none 0 0, .slice none 0 0, .int .i64 0, .slice none 0 0, .slice none 0 0, .int .i64 0, .slice none 0 0, .slice none 0 0, .int .i64 0, .slice none 0 0, .slice none 0 0, .int .i64 0, .int .i64 0, .int .i64 0, .int .i64 0] 44) = W) := ⟨_, rfl⟩
  have hbkr := book_row W0
  rw [HW1.out] at hbkr
  have hb1 : Below W0.heap.size W0 W1 := by rw [← HW1.out]; exact (Below.refl _ _).alloc (Nat.le_refl _) _
  have hst := stage_new W0 W1 hb1 W0.heap.size false
  obtain ⟨W2, HW2⟩ : ∃ W, Hid (W1.alloc (.cells #[.pointer none, .pointer none, .pointer none, .pointer none, .pointer (some ⟨W0.heap.size, 0, none⟩), .bool false] 50) = W) := ⟨_, rfl⟩
  rw [HW2.out] at hst
  have hb2 : Below W1.heap.size W1 W2 := by rw [← HW2.out]; exact (Below.refl _ _).alloc (Nat.le_refl _) _
  have hS2 : PlS W0 W2 W1.heap.size W0.heap.size 0 := ⟨⟨_, _, _, _, hst, fun j m _ e => by cases e⟩, hbkr.of_block (hb2.block _ hbkr.lt), hb1.trans (hb2.mono hb1.size)⟩
  have hz1 : W1.heap.size = W0.heap.size + 1 := by rw [← HW1.out]; simp
  rw [hz1] at hS2
  obtain ⟨sb, Hsb⟩ : ∃ x, Hid (W0.heap.size + 1 = x) := ⟨_, rfl⟩
  obtain ⟨bk, Hbk⟩ : ∃ x, Hid (W0.heap.size = x) := ⟨_, rfl⟩
  clear hbkr hb1 hst hb2 hz1
  go_upto_region 2 with fail
  rw [HW1.out]
  rw [HW2.out]
  rw [Hsb.out, Hbk.out] at hS2
  rw [Hsb.out]
  obtain ⟨x0, x1, x2⟩ := HC.out W2 hS2.below
  have hf0 := hS2.fresh 0 (by decide) r0
  clear hS2
  go_wp2_with fail
  refine hf0.mono ?_
  rintro e w3 ⟨rfl, hS3⟩
  obtain ⟨y0, y1, y2⟩ := HC.out w3 hS3.below
  have hf1 := hS3.fresh 1 (by decide) r1
  clear hf0 hS3 x0 x1 x2
  go_wp2_with fail
  refine hf1.mono ?_
  rintro e w4 ⟨rfl, hS4⟩
  clear hf1 y0 y1 y2
  obtain ⟨W6, HW6⟩ : ∃ W, Hid ((w4.alloc (.cells #[.int .i64 0, .slice none 0 0, .slice none 0 0, .slice none 0 0, .slice none 0 0, .slice none 0 0, .slice none 0 0, .slice none 0 0, .slice none 0 0, .slice none 0 0, .slice none 0 0] 61)).alloc (.cells #[.slice none 0 0] 64) = W) := ⟨_, rfl⟩
  have HX6 : Hid _ := hS4.hdx HW6.out.symm
  have hz5 : (w4.alloc (.cells #[.int .i64 0, .slice none 0 0, .slice none 0 0, .slice none 0 0, .slice none 0 0, .slice none 0 0, .slice none 0 0, .slice none 0 0, .slice none 0 0, .slice none 0 0, .slice none 0 0] 61)).heap.size = w4.heap.size + 1 := by simp
  clear hS4
  go_upto_region 7 with fail
  rw [HW6.out]
  obtain ⟨pb, Hpb⟩ : ∃ x, Hid (w4.heap.size + 1 = x) := ⟨_, rfl⟩
  obtain ⟨xb, Hxb⟩ : ∃ x, Hid (w4.heap.size = x) := ⟨_, rfl⟩
  rw [Hpb.out, Hxb.out] at HX6
  try simp only [hz5]
  rw [Hpb.out, Hxb.out]
  clear hz5 HW6
  go_wp2_with fail
  go_loopg [6, 7, 8, 9, 10, 11, 12, 13, 14, 15, 16] 400 (fun q s6 s7 _ _ _ _ _ _ _ _ _ wx => ∃ (i m : Nat) (va : Option Addr) (vc : Nat), i ≤ 400 ∧ m * 8 ≤ i + 2 ∧ q = 400 - i ∧ s6 = .slice va m vc ∧ s7 = .int .i64 (i : Nat) ∧ Hid (HdX W0 wx sb bk xb pb i (4 * i) 0 m (.slice va m vc)))
  case atStart => exact ⟨0, 0, none, 0, by decide, by decide, rfl, rfl, rfl, HX6⟩
  case round =>
    clear HX6
    obtain ⟨i, m, va, vc, hi, hm8, rfl, rfl, rfl, hS⟩ := hrel
    obtain ⟨_, _, y2⟩ := HC.out wr hS.out.below
    by_cases hlt : i < N ∧ i < 400
    · have hz1 : (i : Int) < (N : Int) := by omega
      have hz2 : (i : Int) < 400 := by omega
      have hwi : IntKind.i64.wrap ((i : Int) + 1) = (i : Int) + 1 := by rw [IntKind.wrap_i64]; omega
      obtain ⟨o, ho⟩ : ∃ o, L[i]? = some o := ⟨_, List.getElem?_eq_getElem (by rw [HN.out]; omega)⟩
      obtain ⟨b, off, rfl, hc⟩ := (HO.out.1.on hS.out.below) i o ho
      have HOK : Hid (o.ok W0) := HO.out.2 o (List.mem_of_getElem? ho)
      have q0 : wr.cell? ⟨b, off + i * 5, none⟩ = some (.int .i64 o.dd) := hc 0 _ rfl
      have q1 : wr.cell? ⟨b, off + i * 5 + 1, none⟩ = some (.int .i64 o.wh) := hc 1 _ rfl
      have q2 : wr.cell? ⟨b, off + i * 5 + 2, none⟩ = some (.int .i64 o.at') := hc 2 _ rfl
      have q3 : wr.cell? ⟨b, off + i * 5 + 3, none⟩ = some (.int .i64 o.to') := hc 3 _ rfl
      have q4 : wr.cell? ⟨b, off + i * 5 + 4, none⟩ = some (.slice o.ba o.bl o.bc) := hc 4 _ rfl
      obtain ⟨Wo, HWo⟩ : ∃ W, Hid (wr.alloc (.cells #[.int .i64 o.dd, .int .i64 o.wh, .int .i64 o.at', .int .i64 o.to', .slice o.ba o.bl o.bc] 55) = W) := ⟨_, rfl⟩
      have hbo : Below wr.heap.size wr Wo := by rw [← HWo.out]; exact (Below.refl _ _).alloc (Nat.le_refl _) _
      have hro := row5_alloc wr (.int .i64 o.dd) (.int .i64 o.wh) (.int .i64 o.at') (.int .i64 o.to') (.slice o.ba o.bl o.bc) 55
      rw [HWo.out] at hro
      obtain ⟨ob, Hob⟩ : ∃ x, Hid (wr.heap.size = x) := ⟨_, rfl⟩
      rw [Hob.out] at hro
      have HBD : Hid (Bdy W0 Wo sb bk xb pb i (4 * i) m ob (.slice va m vc) o) := ⟨hS.out.on hbo, hro⟩
      have p1 : Wo.cell? ⟨ob, 1, none⟩ = some (.int .i64 o.wh) := hro.cell (i := 1) (by decide)
      have p0 : Wo.cell? ⟨ob, 0, none⟩ = some (.int .i64 o.dd) := hro.cell (i := 0) (by decide)
      have hinto := into_any o.wh 2 (by decide) (by decide) Wo
      clear hc ho hS hbo hro
      go_upto_region 11 with fail
      rw [HWo.out]
      rw [Hob.out]
      clear HWo Hob q0 q1 q2 q3 q4 y2
      go_wp2_with fail
      refine hinto.mono ?_
      rintro e w5 ⟨rfl, k, hk, rfl⟩
      clear hinto p1
      have hkz : (k : Int) < 2 := by omega
      have HK2 := hide hk
      obtain ⟨P, nv, vv, F, fam, HS⟩ := HBD.out.x
      have HHS := hide HS
      have cv : w5.cell? ⟨sb, 2 + k, none⟩ = some (vv k) := HS.st.cv hk
      obtain ⟨c, Hc⟩ : ∃ c : Bool, Hid (c = decide (o.dd ≠ 1 ∨ P k = none)) := ⟨_, rfl⟩
      go_upto_region 12 with fail
      go_cut [72] from 42 to 185 (fun s72 wx => s72 = .bool c ∧ w5 = wx)
      case first =>
        by_cases d1 : o.dd = 1
        · have d1b : (o.dd != 1) = false := by rw [d1]; rfl
          have hpk := HS.st.pair k hk
          cases hP : P k with
          | none =>
            have ec : c = true := by rw [Hc.out]; simp [hP]
            rw [hP] at hpk
            have ev : vv k = .pointer none := hpk.2.1
            rw [ev] at cv
            clear HS HHS hpk Hc hP ev HBD HC HO
            go_wp2_with fail
            go_meet
            case rel => go_light; exact ⟨by rw [ec], rfl⟩
          | some mm =>
            have ec : c = false := by rw [Hc.out]; simp [hP, d1]
            obtain ⟨nb, rb, en, ev, _⟩ := HS.st.count hk hP
            rw [ev] at cv
            clear HS HHS hpk Hc hP en ev HBD HC HO
            go_wp2_with fail
            go_meet
            case rel => go_light; exact ⟨by rw [ec], rfl⟩
        · have d1b : (o.dd != 1) = true := by simp [d1]
          have ec : c = true := by rw [Hc.out]; simp [d1]
          clear HS HHS Hc HBD HC HO
          go_wp2_with fail
          go_meet
          case rel => go_light; exact ⟨by rw [ec], rfl⟩
      case rest =>
        obtain ⟨rfl, rfl⟩ := hcut
        go_upto_if 72 with fail
        go_cut [10] from 42 to 185 (fun _ wx => Hid (Bdy W0 wx sb bk xb pb (i + 1) (4 * i) m ob (.slice va m vc) o))
        case first =>
          cases hcc : c with
          | true => as_aux_lemma =>
            have hop := HBD.out.op
            have p1 : w5.cell? ⟨ob, 1, none⟩ = some (.int .i64 o.wh) := hop.cell (i := 1) (by decide)
            have p2 : w5.cell? ⟨ob, 2, none⟩ = some (.int .i64 o.at') := hop.cell (i := 2) (by decide)
            have p3 : w5.cell? ⟨ob, 3, none⟩ = some (.int .i64 o.to') := hop.cell (i := 3) (by decide)
            have p4 : w5.cell? ⟨ob, 4, none⟩ = some (.slice o.ba o.bl o.bc) := hop.cell (i := 4) (by decide)
            have hpl : Calls Try.prog 7 #[.pointer (some ⟨sb, 0, none⟩), .agg #[.int .i64 o.dd, .int .i64 o.wh, .int .i64 o.at', .int .i64 o.to', .slice o.ba o.bl o.bc]] w5 fun e w' => e = .returned (.bool true) ∧ Hid (Bdy W0 w' sb bk xb pb (i + 1) (4 * i) m ob (.slice va m vc) o) := (HBD.out.x.playsK (by omega) o HOK.out).mono fun e w' ⟨he, h1, h2⟩ => ⟨he, h1, h2 _ _ _ hop⟩
            clear HS HHS hop HBD HC HO cv
            go_wp2_with fail
            refine hpl.mono ?_
            rintro e w6 ⟨rfl, HB6⟩
            clear hpl p0 p1 p2 p3 p4
            go_wp2_with fail
            go_meet
            case rel => go_light; exact HB6
          | false => as_aux_lemma =>
            obtain ⟨mm, hP⟩ : ∃ mm, P k = some mm := by
              cases hP : P k with
              | none => rw [hcc] at Hc; have := Hc.out; simp [hP] at this
              | some mm => exact ⟨mm, rfl⟩
            obtain ⟨nb, rb, en, ev, hsd⟩ := HS.send3 hk (by omega) hP o HOK.out
            have hop := HBD.out.op
            obtain ⟨cn1, cv1, HPB⟩ := hsd w5.drew (Below.refl _ _).drew
            have HPC : Hid (Calls Try.prog 13 #[.pointer (some ⟨pb, 0, none⟩), .slice o.ba o.bl o.bc] w5.drew fun e w1 => ∃ a' c', e = .returned (.slice a' o.bl c') ∧ w1.cell? ⟨sb, k, none⟩ = some (.pointer (some ⟨nb, 0, none⟩)) ∧ w1.cell? ⟨sb, 2 + k, none⟩ = some (.pointer (some ⟨rb, 0, none⟩)) ∧ w1.cell? ⟨ob, 3, none⟩ = some (.int .i64 o.to') ∧ w1.cell? ⟨ob, 4, none⟩ = some (.slice o.ba o.bl o.bc) ∧
                Hid (Calls Try.prog 12 #[.pointer (some ⟨nb, 0, none⟩), .int .i64 o.to', .slice a' o.bl c'] w1 fun e w2 => ∃ ok : Bool, e = .returned (.bool ok) ∧ w2.cell? ⟨sb, k, none⟩ = some (.pointer (some ⟨nb, 0, none⟩)) ∧ w2.cell? ⟨sb, 2 + k, none⟩ = some (.pointer (some ⟨rb, 0, none⟩)) ∧ w2.cell? ⟨ob, 3, none⟩ = some (.int .i64 o.to') ∧ w2.cell? ⟨ob, 4, none⟩ = some (.slice o.ba o.bl o.bc) ∧
                  Hid (Calls Try.prog 14 #[.pointer (some ⟨rb, 0, none⟩), .int .i64 o.to', .slice o.ba o.bl o.bc] w2 fun e w3 => e = .returned (.bool ok) ∧ w3.cell? ⟨sb, k, none⟩ = some (.pointer (some ⟨nb, 0, none⟩)) ∧ w3.cell? ⟨sb, 2 + k, none⟩ = some (.pointer (some ⟨rb, 0, none⟩)) ∧ w3.cell? ⟨ob, 3, none⟩ = some (.int .i64 o.to') ∧ w3.cell? ⟨ob, 4, none⟩ = some (.slice o.ba o.bl o.bc) ∧ Hid (Bdy W0 w3 sb bk xb pb (i + 1) (4 * i) m ob (.slice va m vc) o)))) :=
              HPB.out.mono fun e w1 ⟨a', c', he, z1, z2, hk1, hz⟩ => ⟨a', c', he, z1, z2, (hk1 _ _ _ hop).cell (i := 3) (by decide), (hk1 _ _ _ hop).cell (i := 4) (by decide), hz.out.mono fun e w2 ⟨ok, he2, z0, z3, hk2, hz2⟩ => ⟨ok, he2, z0, z3, (hk2 _ _ _ hop).cell (i := 3) (by decide), (hk2 _ _ _ hop).cell (i := 4) (by decide), hz2.out.mono fun e w3 ⟨he3, z5, z6, h1, hk3⟩ => ⟨he3, z5, z6, (hk3 _ _ _ hop).cell (i := 3) (by decide), (hk3 _ _ _ hop).cell (i := 4) (by decide), h1, hk3 _ _ _ hop⟩⟩⟩
            have p3 : w5.cell? ⟨ob, 3, none⟩ = some (.int .i64 o.to') := hop.cell (i := 3) (by decide)
            have p4 : w5.cell? ⟨ob, 4, none⟩ = some (.slice o.ba o.bl o.bc) := hop.cell (i := 4) (by decide)
            have p3d : w5.drew.cell? ⟨ob, 3, none⟩ = some (.int .i64 o.to') := p3
            have p4d : w5.drew.cell? ⟨ob, 4, none⟩ = some (.slice o.ba o.bl o.bc) := p4
            have cn2 : w5.cell? ⟨sb, k, none⟩ = some (.pointer (some ⟨nb, 0, none⟩)) := cn1
            have cv2 : w5.cell? ⟨sb, 2 + k, none⟩ = some (.pointer (some ⟨rb, 0, none⟩)) := cv1
            clear HS HHS hop HBD HC HO cv hsd HPB en ev hP Hc
            go_upto_region 15 with fail
            go_region_held3 (fun W => W.cell? ⟨sb, k, none⟩ = some (.pointer (some ⟨nb, 0, none⟩)) ∧ W.cell? ⟨sb, 2 + k, none⟩ = some (.pointer (some ⟨rb, 0, none⟩)) ∧ W.cell? ⟨ob, 3, none⟩ = some (.int .i64 o.to') ∧ W.cell? ⟨ob, 4, none⟩ = some (.slice o.ba o.bl o.bc))
              (first | exact ⟨cn1, cv1, p3d, p4d⟩ | exact ⟨cn2, cv2, p3, p4⟩ | exact ⟨u1, u2, u3, u4⟩ | exact ⟨v1, v2, v3, v4⟩ | exact ⟨t1, t2, t3, t4⟩)
              (first
                | (go_at_call 13; with_reducible refine HPC.out.mono ?_; rintro e w1 ⟨a', c', rfl, u1, u2, u3, u4, HSN⟩)
                | (go_at_call 12; with_reducible refine HSN.out.mono ?_; rintro e w2 ⟨ok, rfl, v1, v2, v3, v4, HSR⟩)
                | (go_at_call 14; with_reducible refine HSR.out.mono ?_; rintro e w3 ⟨rfl, t1, t2, t3, t4, HB3⟩))
            all_goals
              cases ok
              all_goals
                go_wp2_with fail
                go_meet
                case rel => go_light; exact HB3
        case rest =>
          clear HS HHS HBD cv p0 Hc
          have HCUT := hcut
          clear hcut
          go_wp2_with fail
          go_loopg [10, 11, 12, 13, 14] 2 (fun q s10 _ _ _ _ wx => ∃ (n : Nat), n ≤ 2 ∧ q = 2 - n ∧ s10 = .int .i64 (n : Nat) ∧ Hid (Bdy W0 wx sb bk xb pb (i + 1) (4 * i + 2 * n) m ob (.slice va m vc) o))
          case atStart => exact ⟨0, by decide, rfl, rfl, HCUT⟩
          case round =>
            clear HCUT
            obtain ⟨n, hn, rfl, rfl, HB⟩ := hrel
            obtain ⟨P, nv, vv, F, fam, HS⟩ := HB.out.x
            have cv : wr.cell? ⟨sb, 2 + k, none⟩ = some (vv k) := HS.st.cv HK2.out
            by_cases hn2 : n < 2
            · have hnz : (n : Int) < 2 := by omega
              cases hP : P k with
              | none =>
                have hpk := HS.st.pair k HK2.out
                rw [hP] at hpk
                have ev : vv k = .pointer none := hpk.2.1
                rw [ev] at cv
                clear HS hpk hP ev
                as_aux_lemma =>
                  have HXE : Hid (HdX W0 wr sb bk xb pb (i + 1) (4 * (i + 1)) 0 m (.slice va m vc)) := HB.out.x.monoT (by omega)
                  clear HB
                  by_cases h5 : i % 8 = 5
                  · have hr : Int.tmod (i : Int) 8 = 5 := by
                      have := Int.ofNat_tmod i 8
                      rw [h5] at this
                      exact this.symm
                    have hot := HXE.out.other (by omega)
                    have hmm : (m : Int) ≤ 200 := by omega
                    have hw8 : IntKind.u8.wrap (m : Int) = (m : Int) := by rw [IntKind.wrap_u8']; omega
                    clear HXE
                    go_wp2_with fail
                    refine hot.mono ?_
                    rintro e w7 ⟨nb7, rfl, HSD⟩
                    clear hot
                    have hnum := num_any 0 w7
                    go_wp2_with fail
                    refine hnum.mono ?_
                    rintro e w8 ⟨rfl, e8⟩
                    subst e8
                    clear hnum
                    go_wp2_with fail
                    refine HSD.out.mono ?_
                    rintro e w9 ⟨rfl, oa2, oc2, w10, hr10, HX10⟩
                    have HR := hide hr10
                    clear hr10 HSD
                    go_wp2_with (at_builtin; refine wpList_append_eq rfl _ _ 65 rfl _ _ _ (by rfl) (by rfl) (unhide HR) ?_)
                    go_roundg (400 - (i + 1))
                    case measure => go_light; omega
                    case rel => go_light; exact ⟨i + 1, m + 1, oa2, oc2, by omega, by omega, rfl, rfl, by simp, HX10⟩
                  · obtain ⟨r, hr, hr2⟩ : ∃ r : Nat, Int.tmod (i : Int) 8 = (r : Int) ∧ r = i % 8 := ⟨i % 8, (Int.ofNat_tmod i 8).symm, rfl⟩
                    have hr5 : ((r : Int) == 5) = false := by
                      have : ¬ ((r : Int) = 5) := by omega
                      simpa using this
                    have hrw : IntKind.i64.wrap (r : Int) = (r : Int) := by rw [IntKind.wrap_i64]; omega
                    clear hr2
                    go_wp2_with fail
                    go_roundg (400 - (i + 1))
                    case measure => go_light; omega
                    case rel => go_light; exact ⟨i + 1, m, va, vc, by omega, by omega, rfl, rfl, by simp, HXE⟩
              | some mm =>
                have hop := HB.out.op
                obtain ⟨nb, rb, en, ev, hlk⟩ := HS.look3 HK2.out hP
                have HLK := hide hlk
                obtain ⟨cn1, cv1, HLN, HLE, HLA, HLB⟩ := hlk wr (Below.refl _ _)
                have p2 : wr.cell? ⟨ob, 2, none⟩ = some (.int .i64 o.at') := hop.cell (i := 2) (by decide)
                have cna : ∀ z, (wr.alloc z).cell? ⟨sb, k, none⟩ = some (.pointer (some ⟨nb, 0, none⟩)) := fun z => by rw [World.cell?_alloc_some _ _ _ (by rw [cn1]; rfl)]; exact cn1
                have p2a : ∀ z, (wr.alloc z).cell? ⟨ob, 2, none⟩ = some (.int .i64 o.at') := fun z => by rw [World.cell?_alloc_some _ _ _ (by rw [p2]; rfl)]; exact p2
                have HOP := hide hop
                have HKB : Hid (∀ W', Below wr.heap.size wr W' → W'.cell? ⟨sb, k, none⟩ = some (.pointer (some ⟨nb, 0, none⟩)) ∧ W'.cell? ⟨ob, 2, none⟩ = some (.int .i64 o.at')) := fun W' hb => ⟨(hlk W' hb).1, (hop.of_block (hb.block _ hop.lt)).cell (i := 2) (by decide)⟩
                rw [ev] at cv
                clear hop hlk en ev HB cv1 HLN HLE
                go_upto_region 20 with fail
                go_cut [11, 12] from 102 to 156 (fun s11 s12 wx => ∃ (fa : Option Addr) (nf fc : Nat) (ok : Bool) (fb : Nat), s11 = .pointer (some ⟨fb, 0, none⟩) ∧ s12 = .bool ok ∧ Hid (Fl wr wx W0.heap.size fb fa nf fc))
                case first => as_aux_lemma =>
                  clear HLK HS HOP
                  go_region_held3 (fun W => W.cell? ⟨sb, k, none⟩ = some (.pointer (some ⟨nb, 0, none⟩)) ∧ W.cell? ⟨ob, 2, none⟩ = some (.int .i64 o.at'))
                    (first | exact ⟨cn1, p2⟩ | exact ⟨cna _, p2a _⟩ | exact HKB.out _ HB4.out | exact HKB.out _ (HB4.out.setCell (Nat.le_refl _) _) | exact HKB.out _ ((HB4.out.setCell (Nat.le_refl _) _).setCell (Nat.le_refl _) _) | exact HKB.out _ (HB4.out.alloc HB4.out.size _))
                    (first
                      | (go_at_call 15; with_reducible refine (HLA.out _).mono ?_; rintro e w4 ⟨x, fa, nf, fc, ok, rfl, x0, x1, z0, z1, HB4, HRS⟩)
                      | (go_at_call 15; with_reducible refine (HLB.out _).mono ?_; rintro e w4 ⟨x, fa, nf, fc, ok, rfl, HB4, HRS⟩))
                  all_goals
                    go_wp2_with fail
                    go_meet
                    case rel => go_light; exact ⟨fa, nf, fc, ok, _, rfl, rfl, HRS⟩
                case rest =>
                  clear HLA HLB cna p2a cn1 p2 cv HKB
                  obtain ⟨fa, nf, fc, ok, fb, rfl, rfl, HF⟩ := hcut
                  have hbF : Below wr.heap.size wr wc := by
                    obtain ⟨_, _, h, _⟩ := HF.out
                    exact h
                  obtain ⟨cn1, cv1, HLN, HLE, HLA, HLB⟩ := (unhide HLK) wc hbF
                  have cna : ∀ z, (wc.alloc z).cell? ⟨sb, k, none⟩ = some (.pointer (some ⟨nb, 0, none⟩)) := fun z => by rw [World.cell?_alloc_some _ _ _ (by rw [cn1]; rfl)]; exact cn1
                  have cva : ∀ z, (wc.alloc z).cell? ⟨sb, 2 + k, none⟩ = some (.pointer (some ⟨rb, 0, none⟩)) := fun z => by rw [World.cell?_alloc_some _ _ _ (by rw [cv1]; rfl)]; exact cv1
                  have HLD : Hid (Calls Try.prog 16 #[.pointer (some ⟨rb, 0, none⟩)] wc.drew fun e w' => e = .returned (.int .i64 (mm.ms.length : Nat)) ∧ w' = wc.drew) := HLN.out _ (Below.refl _ _).drew
                  have HLE2 : Hid (Calls Try.prog 16 #[.pointer (some ⟨rb, 0, none⟩)] (wc.alloc (.cells #[.int .i64 0, .slice none 0 0] 70)).drew fun e w' => e = .returned (.int .i64 (mm.ms.length : Nat)) ∧ w' = (wc.alloc (.cells #[.int .i64 0, .slice none 0 0] 70)).drew) := HLN.out _ ((Below.refl _ _).alloc (Nat.le_refl _) _).drew
                  have hle := HLE.out
                  generalize mm.ms.length = ml at *
                  have hwl : IntKind.i64.wrap ((ml : Int) - 1) = (ml : Int) - 1 := by rw [IntKind.wrap_i64]; omega
                  have HKB : Hid (∀ W', Below wc.heap.size wc W' → W'.cell? ⟨sb, k, none⟩ = some (.pointer (some ⟨nb, 0, none⟩)) ∧ W'.cell? ⟨sb, 2 + k, none⟩ = some (.pointer (some ⟨rb, 0, none⟩))) := fun W' hb => ⟨((unhide HLK) W' (hbF.trans (hb.mono hbF.size))).1, ((unhide HLK) W' (hbF.trans (hb.mono hbF.size))).2.1⟩
                  clear HLN HLE hbF
                  go_upto_region 21 with fail
                  go_cut [13, 14] from 102 to 156 (fun s13 s14 wx => ∃ (ga : Option Addr) (ng gc : Nat) (ok : Bool) (gb : Nat), s13 = .pointer (some ⟨gb, 0, none⟩) ∧ s14 = .bool ok ∧ Hid (Fl wc wx W0.heap.size gb ga ng gc))
                  case first => as_aux_lemma =>
                    clear HLK HS HOP HF
                    go_region_held3 (fun W => W.cell? ⟨sb, k, none⟩ = some (.pointer (some ⟨nb, 0, none⟩)) ∧ W.cell? ⟨sb, 2 + k, none⟩ = some (.pointer (some ⟨rb, 0, none⟩)))
                      (first | exact ⟨cn1, cv1⟩ | exact ⟨cna _, cva _⟩ | exact HKB.out _ HB4.out | exact HKB.out _ (HB4.out.setCell (Nat.le_refl _) _) | exact HKB.out _ ((HB4.out.setCell (Nat.le_refl _) _).setCell (Nat.le_refl _) _) | exact HKB.out _ (HB4.out.alloc HB4.out.size _))
                      (first
                        | (go_at_call 16; with_reducible refine HLD.out.mono ?_; rintro e w4 ⟨rfl, rfl⟩)
                        | (go_at_call 16; with_reducible refine HLE2.out.mono ?_; rintro e w4 ⟨rfl, rfl⟩)
                        | (go_at_call 15; with_reducible refine (HLA.out _).mono ?_; rintro e w4 ⟨x, ga, ng, gc, ok, rfl, x0, x1, z0, z1, HB4, HRS⟩)
                        | (go_at_call 15; with_reducible refine (HLB.out _).mono ?_; rintro e w4 ⟨x, ga, ng, gc, ok, rfl, HB4, HRS⟩))
                    all_goals
                      go_wp2_with fail
                      go_meet
                      case rel => go_light; exact ⟨ga, ng, gc, ok, _, rfl, rfl, HRS⟩
                  case rest =>
                    clear HLA HLB cna cva cn1 cv1 HLD HLE2 hle hwl HKB
                    obtain ⟨ga, ng, gc, ok2, gb, rfl, rfl, HG⟩ := hcut
                    obtain ⟨d1, hby⟩ := HS.two (by omega) HF.out HG.out
                    clear HLK HS
                    go_wp2_with fail
                    refine hby.mono ?_
                    rintro e w8 ⟨rfl, d2, HBY2⟩
                    clear hby d1
                    go_wp2_with fail
                    refine HBY2.out.mono ?_
                    rintro e w9 ⟨rfl, hX9, hK9⟩
                    have HB9 : Hid (Bdy W0 w9 sb bk xb pb (i + 1) (4 * i + 2 * (n + 1)) m ob (.slice va m vc) o) := ⟨by rw [show 4 * i + 2 * (n + 1) = 4 * i + 2 * n + 2 by omega]; exact hX9, hK9 _ _ _ HOP.out⟩
                    have hwn : IntKind.i64.wrap ((n : Int) + 1) = (n : Int) + 1 := by rw [IntKind.wrap_i64]; omega
                    clear HBY2 d2 hX9 hK9 HOP HF HG
                    go_wp2_with fail
                    go_roundg (2 - (n + 1))
                    case measure => go_light; omega
                    case rel => go_light; exact ⟨n + 1, by omega, rfl, by simp, HB9⟩
            · have hnz : ¬ (n : Int) < 2 := by omega
              clear HS cv
              as_aux_lemma =>
                have HXE : Hid (HdX W0 wr sb bk xb pb (i + 1) (4 * (i + 1)) 0 m (.slice va m vc)) := HB.out.x.monoT (by omega)
                clear HB
                by_cases h5 : i % 8 = 5
                · have hr : Int.tmod (i : Int) 8 = 5 := by
                    have := Int.ofNat_tmod i 8
                    rw [h5] at this
                    exact this.symm
                  have hot := HXE.out.other (by omega)
                  have hmm : (m : Int) ≤ 200 := by omega
                  have hw8 : IntKind.u8.wrap (m : Int) = (m : Int) := by rw [IntKind.wrap_u8']; omega
                  clear HXE
                  go_wp2_with fail
                  refine hot.mono ?_
                  rintro e w7 ⟨nb7, rfl, HSD⟩
                  clear hot
                  have hnum := num_any 0 w7
                  go_wp2_with fail
                  refine hnum.mono ?_
                  rintro e w8 ⟨rfl, e8⟩
                  subst e8
                  clear hnum
                  go_wp2_with fail
                  refine HSD.out.mono ?_
                  rintro e w9 ⟨rfl, oa2, oc2, w10, hr10, HX10⟩
                  have HR := hide hr10
                  clear hr10 HSD
                  go_wp2_with (at_builtin; refine wpList_append_eq rfl _ _ 65 rfl _ _ _ (by rfl) (by rfl) (unhide HR) ?_)
                  go_roundg (400 - (i + 1))
                  case measure => go_light; omega
                  case rel => go_light; exact ⟨i + 1, m + 1, oa2, oc2, by omega, by omega, rfl, rfl, by simp, HX10⟩
                · obtain ⟨r, hr, hr2⟩ : ∃ r : Nat, Int.tmod (i : Int) 8 = (r : Int) ∧ r = i % 8 := ⟨i % 8, (Int.ofNat_tmod i 8).symm, rfl⟩
                  have hr5 : ((r : Int) == 5) = false := by
                    have : ¬ ((r : Int) = 5) := by omega
                    simpa using this
                  have hrw : IntKind.i64.wrap (r : Int) = (r : Int) := by rw [IntKind.wrap_i64]; omega
                  clear hr2
                  go_wp2_with fail
                  go_roundg (400 - (i + 1))
                  case measure => go_light; omega
                  case rel => go_light; exact ⟨i + 1, m, va, vc, by omega, by omega, rfl, rfl, by simp, HXE⟩
    · have hne : (¬ (i : Int) < (N : Int)) ∨ ((i : Int) < (N : Int) ∧ ¬ (i : Int) < 400) := by omega
      clear hlt
      rcases hne with hz | ⟨hz, hz2⟩
      all_goals as_aux_lemma =>
        go_wp2_with fail
        go_loopg [17, 18, 19] m (fun q s17 _ _ wx => ∃ (p : Nat), p ≤ m ∧ q = m - p ∧ s17 = .int .i64 (p : Nat) ∧ Hid (HdX W0 wx sb bk xb pb i (4 * i) p m (.slice va m vc)))
        case atStart => exact ⟨0, Nat.zero_le _, rfl, rfl, hS⟩
        case round =>
          clear hS y2
          obtain ⟨p, hp, rfl, rfl, HX⟩ := hrel
          by_cases hpm : p < m
          · have hpz : (p : Int) < (m : Int) := by omega
            obtain ⟨b, oa2, oc2, eov, hcl, HTK⟩ := HX.out.take hpm (by omega)
            injection eov with e1 _ e3
            subst e1 e3
            have hpp : (p : Int) ≤ 200 := by omega
            have hw8 : IntKind.u8.wrap (p : Int) = (p : Int) := by rw [IntKind.wrap_u8']; omega
            have hwp : IntKind.i64.wrap ((p : Int) + 1) = (p : Int) + 1 := by rw [IntKind.wrap_i64]; omega
            clear HX
            go_wp2_with fail
            refine HTK.out.mono ?_
            rintro e w6 ⟨g, c, rfl, HSM⟩
            obtain ⟨W7, HW7⟩ : ∃ W, Hid (w6.alloc (.cells #[.int .i64 (p : Nat), .slice (some ⟨g, 0, none⟩) 2 c] 70) = W) := ⟨_, rfl⟩
            have hb7 : Below w6.heap.size w6 W7 := by rw [← HW7.out]; exact (Below.refl _ _).alloc (Nat.le_refl _) _
            have hr7 := row2_alloc w6 (.int .i64 (p : Nat)) (.slice (some ⟨g, 0, none⟩) 2 c) 70
            rw [HW7.out] at hr7
            have v0 : W7.cell? ⟨w6.heap.size, 0, none⟩ = some (.int .i64 (p : Nat)) := hr7.cell (i := 0) (by decide)
            have v1 : W7.cell? ⟨w6.heap.size, 1, none⟩ = some (.slice (some ⟨g, 0, none⟩) 2 c) := hr7.cell (i := 1) (by decide)
            have hsm := HSM.out W7 hb7
            clear HTK hcl HSM hb7 hr7
            go_upto_region 33 with fail
            rw [HW7.out]
            clear HW7
            go_wp2_with fail
            refine hsm.mono ?_
            rintro e w8 ⟨rfl, hX8⟩
            have HX8 := hide hX8
            clear hX8 hsm v0 v1
            go_wp2_with fail
            go_roundg (m - (p + 1))
            case measure => go_light; omega
            case rel => go_light; exact ⟨p + 1, by omega, rfl, by simp, HX8⟩
          · have hpz : ¬ (p : Int) < (m : Int) := by omega
            have hgv := HX.out.given
            clear HX
            go_wp2_with fail
            refine hgv.mono ?_
            rintro e w6 ⟨rfl, HA0⟩
            clear hgv
            go_wp2_with fail
            refine HA0.out.mono ?_
            rintro e w7 ⟨rfl, HA1⟩
            go_wp2_with fail
            refine HA1.out.mono ?_
            rintro e w8 ⟨rfl, hb8⟩
            have HE : Hid (Below w.heap.size w w8) := HB0.out.trans (hb8.mono HB0.out.size)
            clear HA0 HA1 hb8
            go_wp2_with fail
            go_ret
            exact ⟨rfl, HE.out⟩
end Go.Proofs.Ytgpmoakfbhcidaa
