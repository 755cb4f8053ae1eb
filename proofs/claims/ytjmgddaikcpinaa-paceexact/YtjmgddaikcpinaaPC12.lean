/- The law PaceExact. -/
import Derived.Test.YtjmgddaikcpinaaPC11
namespace Go.Proofs.Ytjmgddaikcpinaa
open Go.RowKit
set_option maxRecDepth 100000
set_option maxRecDepth 100000

/-- One step of the script. -/
structure POp where
  kd : Int
  wh : Int
  cap : Int
def POpsIn (W : World) (a : Option Addr) (l : List POp) : Prop := ∀ i o, l[i]? = some o → ∃ b off, a = some ⟨b, off, none⟩ ∧ W.cell? ⟨b, off + i * 3, none⟩ = some (.int .i64 o.kd) ∧ W.cell? ⟨b, off + i * 3 + 1, none⟩ = some (.int .i64 o.wh) ∧ W.cell? ⟨b, off + i * 3 + 2, none⟩ = some (.int .i64 o.cap)
theorem POpsIn.on {W W' : World} {a : Option Addr} {l : List POp} (h : POpsIn W a l) (hb : Below W.heap.size W W') : POpsIn W' a l := fun i o ho => by
  obtain ⟨b, off, e, h1, h2, h3⟩ := h i o ho
  exact ⟨b, off, e, cel_on hb (cel_lt h1) h1, cel_on hb (cel_lt h1) h2, cel_on hb (cel_lt h1) h3⟩
theorem row3_alloc (w : World) (a b c : Value) (t : TypeId) : (w.alloc (.cells #[a, b, c] t)).rowIs w.heap.size t 3 (fun i => if i = 0 then a else if i = 1 then b else c) :=
  World.rowIs_alloc w _ _ _ (fun i hi => by
    have hi' : i < 3 := hi
    match i, hi' with
    | 0, _ | 1, _ | 2, _ => rfl)
theorem row12_alloc (w : World) (t : TypeId) : (w.alloc (.cells #[.pointer none, .pointer none, .pointer none, .pointer none, .pointer none, .pointer none, .pointer none, .pointer none, .pointer none, .pointer none, .pointer none, .pointer none] t)).rowIs w.heap.size t 12 (fun _ => .pointer none) :=
  World.rowIs_alloc w _ _ _ (fun i hi => by
    have hi' : i < 12 := hi
    match i, hi' with
    | 0, _ | 1, _ | 2, _ | 3, _ | 4, _ | 5, _ | 6, _ | 7, _ | 8, _ | 9, _ | 10, _ | 11, _ => rfl)

set_option maxHeartbeats 8000000 in
theorem exactLaw (r0 r1 : Int) (oa : Option Addr) (oc : Nat) (L : List POp) (w : World) (hO : POpsIn w oa L) :
    Calls Try.prog 5 #[.agg #[.int .i64 r0, .int .i64 r1, .slice oa L.length oc]] w fun e w' => e = .returned (.bool true) ∧ Below w.heap.size w w' := by
  obtain ⟨W0, HW0⟩ : ∃ W, Hid (w.alloc (.cells #[.int .i64 r0, .int .i64 r1, .slice oa L.length oc] 37) = W) := ⟨_, rfl⟩
  have hb0 : Below w.heap.size w W0 := by rw [← HW0.out]; exact (Below.refl _ _).alloc (Nat.le_refl _) _
  have hr0 := row3_alloc w (.int .i64 r0) (.int .i64 r1) (.slice oa L.length oc) 37
  rw [HW0.out] at hr0
  have HO : Hid (POpsIn W0 oa L) := hO.on hb0
  have HB0 : Hid (Below w.heap.size w W0) := hb0
  obtain ⟨sb, Hsb⟩ : ∃ x, Hid (w.heap.size = x) := ⟨_, rfl⟩
  rw [Hsb.out] at hr0
  have hlt := hr0.lt
  have k0 : W0.cell? ⟨sb, 0, none⟩ = some (.int .i64 r0) := hr0.cell (i := 0) (by decide)
  have k1 : W0.cell? ⟨sb, 1, none⟩ = some (.int .i64 r1) := hr0.cell (i := 1) (by decide)
  have k2 : W0.cell? ⟨sb, 2, none⟩ = some (.slice oa L.length oc) := hr0.cell (i := 2) (by decide)
  have HC : Hid (∀ W, Below W0.heap.size W0 W → W.cell? ⟨sb, 0, none⟩ = some (.int .i64 r0) ∧ W.cell? ⟨sb, 1, none⟩ = some (.int .i64 r1) ∧ W.cell? ⟨sb, 2, none⟩ = some (.slice oa L.length oc)) := fun W hb => ⟨cel_on hb hlt k0, cel_on hb hlt k1, cel_on hb hlt k2⟩
  clear k0 k1 k2 hO hb0 hr0
  obtain ⟨W1, HW1⟩ : ∃ W, Hid (W0.alloc (.cells #[.pointer none, .pointer none, .pointer none, .pointer none, .pointer none, .pointer none, .pointer none, .pointer none, .pointer none, .pointer none, .pointer none, .pointer none] 38) = W) := ⟨_, rfl⟩
  obtain ⟨W2, HW2⟩ : ∃ W, Hid (W1.alloc (.cells #[.pointer none, .pointer none, .pointer none, .pointer none, .pointer none, .pointer none, .pointer none, .pointer none, .pointer none, .pointer none, .pointer none, .pointer none] 40) = W) := ⟨_, rfl⟩
  have hb1 : Below W0.heap.size W0 W1 := by rw [← HW1.out]; exact (Below.refl _ _).alloc (Nat.le_refl _) _
  have hb2 : Below W1.heap.size W1 W2 := by rw [← HW2.out]; exact (Below.refl _ _).alloc (Nat.le_refl _) _
  have q1 := row12_alloc W0 38
  rw [HW1.out] at q1
  have q2 := row12_alloc W1 40
  rw [HW2.out] at q2
  have hz1 := hb1.size
  obtain ⟨ap, Hap⟩ : ∃ x, Hid (W0.heap.size = x) := ⟨_, rfl⟩
  obtain ⟨aq, Haq⟩ : ∃ x, Hid (W1.heap.size = x) := ⟨_, rfl⟩
  have HE : Hid (EX W0 W2 W0.heap.size W1.heap.size 0 0) := ES.start (q1.of_block (hb2.block _ q1.lt)) q2 ⟨Nat.le_refl _, hz1⟩ (hb1.trans (hb2.mono hz1))
  rw [Hap.out, Haq.out] at HE
  clear hb1 hb2 q1 q2 hz1 hlt
  go_enter Try.func5, Try.ntmps5
  go_upto_region 1 with fail
  rw [HW0.out, Hsb.out]
  go_upto_region 2 with fail
  rw [HW1.out, Hap.out]
  go_upto_region 3 with fail
  rw [HW2.out, Haq.out]
  clear HW1 HW2 HW0
  go_wp2_with fail
  go_loopg [5] 12 (fun q s5 wx => ∃ i : Nat, i ≤ 12 ∧ q = 12 - i ∧ s5 = .int .i64 (i : Nat) ∧ Hid (EX W0 wx ap aq i 0))
  case atStart => exact ⟨0, by decide, rfl, rfl, HE⟩
  case round =>
    clear HE
    obtain ⟨i, hi, rfl, rfl, HX⟩ := hrel
    obtain ⟨x0, x1, x2⟩ := HC.out wr HX.out.below
    by_cases hlt : i < 12
    · obtain ⟨r, hr, hr2⟩ : ∃ r : Nat, Int.tmod (i : Int) 2 = (r : Int) ∧ r < 2 := ⟨i % 2, (Int.ofNat_tmod i 2).symm, by omega⟩
      obtain ⟨X, hX⟩ : ∃ X, wr.cell? ⟨sb, r, none⟩ = some (.int .i64 X) := by
        match r, hr2 with
        | 0, _ => exact ⟨r0, x0⟩
        | 1, _ => exact ⟨r1, x1⟩
      have hrw : IntKind.i64.wrap (r : Int) = (r : Int) := by rw [IntKind.wrap_i64]; omega
      have z1 : (i : Int) < 12 := by omega
      have z0 : (0 : Int) ≤ (i : Int) := by omega
      have zr : (r : Int) < 2 := by omega
      have zr0 : (0 : Int) ≤ (r : Int) := by omega
      have hwi : IntKind.i64.wrap ((i : Int) + 1) = (i : Int) + 1 := by rw [IntKind.wrap_i64]; omega
      have hme : 12 - (i + 1) < 12 - i := by omega
      have hi1 : i + 1 ≤ 12 := by omega
      have HMK : Hid (∀ (n : Nat), Hid (1 ≤ n ∧ n ≤ 64) → Calls Try.prog 12 #[.int .i64 (n : Nat)] wr fun e w' => ∃ pb qb, e = .returned (.tuple #[.pointer (some ⟨pb, 0, none⟩), .pointer (some ⟨qb, 0, none⟩), .bool true]) ∧ ∃ vp vq : Value, w'.cell? ⟨ap, i, none⟩ = some vp ∧ w'.frozen? ⟨ap, i, none⟩ = false ∧ (w'.setCell ⟨ap, i, none⟩ (.pointer (some ⟨pb, 0, none⟩))).cell? ⟨aq, i, none⟩ = some vq ∧ (w'.setCell ⟨ap, i, none⟩ (.pointer (some ⟨pb, 0, none⟩))).frozen? ⟨aq, i, none⟩ = false ∧ Hid (EX W0 ((w'.setCell ⟨ap, i, none⟩ (.pointer (some ⟨pb, 0, none⟩))).setCell ⟨aq, i, none⟩ (.pointer (some ⟨qb, 0, none⟩))) ap aq (i + 1) 0)) := fun n hn => by
        obtain ⟨PB, QB, M, T, hES⟩ := HX.out
        refine (made_any n hn.out.1 hn.out.2 wr).mono fun e w' ⟨pb, qb, he, hk⟩ => ⟨pb, qb, he, ?_⟩
        obtain ⟨h2, hpb, hqb, hb⟩ := hk.out
        exact (hES.on hb).slots (by omega) (hES.put hb h2 hpb hqb (.inr ⟨rfl, rfl⟩) (by omega))
      by_cases hin : 1 ≤ X ∧ X ≤ 64
      · obtain ⟨n, hn, HN⟩ : ∃ n : Nat, X = (n : Int) ∧ Hid (1 ≤ n ∧ n ≤ 64) := ⟨X.toNat, by omega, by show _ ∧ _; omega⟩
        subst hn
        have HM1 := HMK.out n HN
        clear HMK hin x0 x1 x2 HX
        go_wp2_with (first
          | (go_at_call 12; refine HM1.mono ?_; rintro e w2 ⟨pb, qb, rfl, vp, vq, d1, d2, d3, d4, HK⟩))
        go_roundg (12 - (i + 1))
        case measure => go_light; exact hme
        case rel => go_light; exact ⟨i + 1, hi1, rfl, by simp, HK⟩
      · have HM0 := made_not X (by omega) wr
        have HI : Hid (Calls Try.prog 6 #[.int .i64 X, .int .i64 64] wr fun e w' => wr = w' ∧ ∃ k n : Nat, e = .returned (.int .i64 (k : Nat)) ∧ 1 + (k : Int) = (n : Int) ∧ IntKind.i64.wrap (n : Int) = (n : Int) ∧ Hid (1 ≤ n ∧ n ≤ 64)) := into_one X 64 (by decide) (by decide) wr
        clear hin x0 x1 x2 HX
        go_wp2_with (first
          | (go_at_call 12; with_reducible refine HM0.mono ?_; rintro e w2 ⟨rfl, rfl⟩)
          | (go_at_call 6; refine HI.out.mono ?_; rintro e w2 ⟨rfl, k, n, rfl, hn, wn, HN⟩)
          | (go_at_call 12; with_reducible refine (HMK.out n HN).mono ?_; rintro e w2 ⟨pb, qb, rfl, vp, vq, d1, d2, d3, d4, HK⟩))
        go_roundg (12 - (i + 1))
        case measure => go_light; exact hme
        case rel => go_light; exact ⟨i + 1, hi1, rfl, by simp, HK⟩
    · obtain rfl : i = 12 := by omega
      have z1 : ¬ (12 : Int) < 12 := by decide
      clear x0 x1 x2
      go_wp2_with fail
      go_loopg [9] 2000 (fun q s9 wx => ∃ i : Nat, i ≤ 2000 ∧ q = 2000 - i ∧ s9 = .int .i64 (i : Nat) ∧ Hid (EX W0 wx ap aq 12 i))
      case atStart => exact ⟨0, by decide, rfl, rfl, HX⟩
      case round =>
        clear HX
        obtain ⟨i, hi, rfl, rfl, HX⟩ := hrel
        obtain ⟨x0, x1, x2⟩ := HC.out wr HX.out.below
        by_cases hgo : i < L.length ∧ i < 2000
        · have z1 : (i : Int) < (L.length : Int) := by omega
          have z2 : (i : Int) < 2000 := by omega
          have z0 : (0 : Int) ≤ (i : Int) := by omega
          obtain ⟨o, ho⟩ : ∃ o, L[i]? = some o := ⟨_, List.getElem?_eq_getElem hgo.1⟩
          obtain ⟨b, off, rfl, q0, q1, q2⟩ := (HO.out.on HX.out.below) i o ho
          obtain ⟨Wo, HWo⟩ : ∃ W, Hid (wr.alloc (.cells #[.int .i64 o.kd, .int .i64 o.wh, .int .i64 o.cap] 44) = W) := ⟨_, rfl⟩
          have hbo : Below wr.heap.size wr Wo := by rw [← HWo.out]; exact (Below.refl _ _).alloc (Nat.le_refl _) _
          have hro := row3_alloc wr (.int .i64 o.kd) (.int .i64 o.wh) (.int .i64 o.cap) 44
          rw [HWo.out] at hro
          obtain ⟨ob, Hob⟩ : ∃ x, Hid (wr.heap.size = x) := ⟨_, rfl⟩
          rw [Hob.out] at hro
          have HX1 : Hid (EX W0 Wo ap aq 12 i) := HX.out.on hbo
          have p0 : Wo.cell? ⟨ob, 0, none⟩ = some (.int .i64 o.kd) := hro.cell (i := 0) (by decide)
          have p1 : Wo.cell? ⟨ob, 1, none⟩ = some (.int .i64 o.wh) := hro.cell (i := 1) (by decide)
          have p2 : Wo.cell? ⟨ob, 2, none⟩ = some (.int .i64 o.cap) := hro.cell (i := 2) (by decide)
          have hin := into_any o.wh 12 (by decide) (by decide) Wo
          have hwi : IntKind.i64.wrap ((i : Int) + 1) = (i : Int) + 1 := by rw [IntKind.wrap_i64]; omega
          have hme : 2000 - (i + 1) < 2000 - i := by omega
          have hi1 : i + 1 ≤ 2000 := by omega
          have hi5 : i < 5000 := by omega
          generalize o.kd = kd at *
          generalize o.wh = wh at *
          generalize o.cap = cap at *
          clear hbo hro HX ho hgo x0 x1
          generalize L.length = LL at *
          go_upto_region 19 with fail
          rw [HWo.out]
          rw [Hob.out]
          clear HWo Hob q0 q1 q2 x2
          go_wp2_with fail
          refine hin.mono ?_
          rintro e w5 ⟨rfl, k, hk, rfl⟩
          clear hin p1
          have zk : (k : Int) < 12 := by omega
          have zk0 : (0 : Int) ≤ (k : Int) := by omega
          by_cases d1 : kd = 1
          · subst d1
            obtain ⟨pb, qb, d, c1, c2, HT⟩ := HX1.out.tick hk hi5
            have hdd : (d == d) = true := by simp
            have c1d : Wo.drew.cell? ⟨ap, k, none⟩ = some (.pointer (some ⟨pb, 0, none⟩)) := c1
            have c2d : Wo.drew.cell? ⟨aq, k, none⟩ = some (.pointer (some ⟨qb, 0, none⟩)) := c2
            clear HX1 HC HO HB0 p2
            go_upto_region 22 with fail
            go_region_held3 (fun W => W.cell? ⟨ap, k, none⟩ = some (.pointer (some ⟨pb, 0, none⟩)) ∧ W.cell? ⟨aq, k, none⟩ = some (.pointer (some ⟨qb, 0, none⟩)))
              (first | exact ⟨c1d, c2d⟩ | exact ⟨c1, c2⟩ | exact ⟨u1, u2⟩ | exact ⟨v1, v2⟩)
              (first
                | (go_at_call 8; with_reducible refine HT.out.mono ?_; rintro e w6 ⟨rfl, u1, u2, HT2⟩)
                | (go_at_call 13; with_reducible refine HT2.out.mono ?_; rintro e w7 ⟨rfl, v1, v2, HK⟩))
            all_goals
              go_wp2_with fail
              go_roundg (2000 - (i + 1))
              case measure => go_light; exact hme
              case rel => go_light; exact ⟨i + 1, hi1, rfl, by simp, HK⟩
          · have e1 : (kd == 1) = false := by simp [d1]
            by_cases d2 : kd = 2
            · subst d2
              obtain ⟨pb, qb, c1, HT⟩ := HX1.out.reset hk
              clear HX1 HC HO HB0 p2
              go_wp2_with (first
                | (go_at_call 9; refine HT.out.mono ?_; rintro e w6 ⟨rfl, u2, HT2⟩)
                | (go_at_call 14; refine HT2.out.mono ?_; rintro e w7 ⟨rfl, HK⟩))
              go_roundg (2000 - (i + 1))
              case measure => go_light; exact hme
              case rel => go_light; exact ⟨i + 1, hi1, rfl, by simp, HK⟩
            · have e2 : (kd == 2) = false := by simp [d2]
              by_cases d3 : kd = 3
              · subst d3
                obtain ⟨pb, qb, l, c1, c2, HT⟩ := HX1.out.wait hk
                have HUP : Hid (∀ W, Hid (EX W0 W ap aq 12 i) → Hid (EX W0 W ap aq 12 (i + 1))) := fun W h => h.out.mono (Nat.le_succ i)
                have c1d : Wo.drew.cell? ⟨ap, k, none⟩ = some (.pointer (some ⟨pb, 0, none⟩)) := c1
                have c2d : Wo.drew.cell? ⟨aq, k, none⟩ = some (.pointer (some ⟨qb, 0, none⟩)) := c2
                have hll : ((l : Int) == (l : Int)) = true := by simp
                clear HX1 HC HO HB0 p2
                go_upto_region 28 with fail
                go_region_held3 (fun W => W.cell? ⟨ap, k, none⟩ = some (.pointer (some ⟨pb, 0, none⟩)) ∧ W.cell? ⟨aq, k, none⟩ = some (.pointer (some ⟨qb, 0, none⟩)))
                  (first | exact ⟨c1d, c2d⟩ | exact ⟨c1, c2⟩ | exact ⟨u1, u2⟩ | exact ⟨v1, v2⟩)
                  (first
                    | (go_at_call 10; with_reducible refine HT.out.mono ?_; rintro e w6 ⟨rfl, u1, u2, HT2⟩)
                    | (go_at_call 15; with_reducible refine HT2.out.mono ?_; rintro e w7 ⟨rfl, v1, v2, HK⟩))
                all_goals
                  go_wp2_with fail
                  go_roundg (2000 - (i + 1))
                  case measure => go_light; exact hme
                  case rel => go_light; exact ⟨i + 1, hi1, rfl, by simp, HUP.out _ HK⟩
              · have e3 : (kd == 3) = false := by simp [d3]
                by_cases d4 : kd = 4
                · subst d4
                  by_cases hin : 1 ≤ cap ∧ cap ≤ 64
                  · obtain ⟨n, hn, HN⟩ : ∃ n : Nat, cap = (n : Int) ∧ Hid (1 ≤ n ∧ n ≤ 64) := ⟨cap.toNat, by omega, by show _ ∧ _; omega⟩
                    subst hn
                    have HM1 : Hid (Calls Try.prog 12 #[.int .i64 (n : Nat)] Wo fun e w' => ∃ pb qb, e = .returned (.tuple #[.pointer (some ⟨pb, 0, none⟩), .pointer (some ⟨qb, 0, none⟩), .bool true]) ∧ ∃ vp vq : Value, w'.cell? ⟨ap, k, none⟩ = some vp ∧ w'.frozen? ⟨ap, k, none⟩ = false ∧ (w'.setCell ⟨ap, k, none⟩ (.pointer (some ⟨pb, 0, none⟩))).cell? ⟨aq, k, none⟩ = some vq ∧ (w'.setCell ⟨ap, k, none⟩ (.pointer (some ⟨pb, 0, none⟩))).frozen? ⟨aq, k, none⟩ = false ∧ Hid (EX W0 ((w'.setCell ⟨ap, k, none⟩ (.pointer (some ⟨pb, 0, none⟩))).setCell ⟨aq, k, none⟩ (.pointer (some ⟨qb, 0, none⟩))) ap aq 12 (i + 1))) := by
                      obtain ⟨PB, QB, M, T, hES⟩ := HX1.out
                      refine (made_any n HN.out.1 HN.out.2 Wo).mono fun e w' ⟨pb, qb, he, hk'⟩ => ⟨pb, qb, he, ?_⟩
                      obtain ⟨h2, hpb, hqb, hb⟩ := hk'.out
                      exact (hES.on hb).slots hk ((hES.mono (Nat.le_succ i)).put hb h2 hpb hqb (.inl rfl) hk)
                    clear HX1 HC HO HB0 hin
                    go_wp2_with (first
                      | (go_at_call 12; refine HM1.out.mono ?_; rintro e w2 ⟨pb, qb, rfl, vp, vq, d1, d2, d3, d4, HK⟩))
                    go_roundg (2000 - (i + 1))
                    case measure => go_light; exact hme
                    case rel => go_light; exact ⟨i + 1, hi1, rfl, by simp, HK⟩
                  · have HM0 := made_not cap (by omega) Wo
                    have HK : Hid (EX W0 Wo ap aq 12 (i + 1)) := HX1.out.mono (Nat.le_succ i)
                    clear HX1 HC HO HB0 hin
                    go_wp2_with (first
                      | (go_at_call 12; refine HM0.mono ?_; rintro e w2 ⟨rfl, rfl⟩))
                    go_roundg (2000 - (i + 1))
                    case measure => go_light; exact hme
                    case rel => go_light; exact ⟨i + 1, hi1, rfl, by simp, HK⟩
                · have e4 : (kd == 4) = false := by simp [d4]
                  have HK : Hid (EX W0 Wo ap aq 12 (i + 1)) := HX1.out.mono (Nat.le_succ i)
                  clear HX1 HC HO HB0 p2
                  go_wp2_with fail
                  go_roundg (2000 - (i + 1))
                  case measure => go_light; exact hme
                  case rel => go_light; exact ⟨i + 1, hi1, rfl, by simp, HK⟩
        · have hne : (¬ (i : Int) < (L.length : Int)) ∨ ((i : Int) < (L.length : Int) ∧ ¬ (i : Int) < 2000) := by omega
          clear hgo x0 x1
          generalize L.length = LL at *
          rcases hne with hz | ⟨hz, hz2⟩
          all_goals
            go_wp2_with fail
            go_loopg [15] 12 (fun q s15 wx => ∃ j : Nat, j ≤ 12 ∧ q = 12 - j ∧ s15 = .int .i64 (j : Nat) ∧ Hid (EX W0 wx ap aq 12 i))
            case atStart => exact ⟨0, by decide, rfl, rfl, HX⟩
            case round =>
              clear HX x2
              obtain ⟨k, hk, rfl, rfl, HX⟩ := hrel
              by_cases hk2 : k < 12
              · obtain ⟨pb, qb, l, c1, c2, HT⟩ := HX.out.wait hk2
                have zk : (k : Int) < 12 := by omega
                have zk0 : (0 : Int) ≤ (k : Int) := by omega
                have c1d : wr.drew.cell? ⟨ap, k, none⟩ = some (.pointer (some ⟨pb, 0, none⟩)) := c1
                have c2d : wr.drew.cell? ⟨aq, k, none⟩ = some (.pointer (some ⟨qb, 0, none⟩)) := c2
                have hll : ((l : Int) == (l : Int)) = true := by simp
                have hwk : IntKind.i64.wrap ((k : Int) + 1) = (k : Int) + 1 := by rw [IntKind.wrap_i64]; omega
                have hme : 12 - (k + 1) < 12 - k := by omega
                have hk1 : k + 1 ≤ 12 := by omega
                clear HX HC HO HB0
                go_upto_region 40 with fail
                go_region_held3 (fun W => W.cell? ⟨ap, k, none⟩ = some (.pointer (some ⟨pb, 0, none⟩)) ∧ W.cell? ⟨aq, k, none⟩ = some (.pointer (some ⟨qb, 0, none⟩)))
                  (first | exact ⟨c1d, c2d⟩ | exact ⟨c1, c2⟩ | exact ⟨u1, u2⟩ | exact ⟨v1, v2⟩)
                  (first
                    | (go_at_call 10; with_reducible refine HT.out.mono ?_; rintro e w6 ⟨rfl, u1, u2, HT2⟩)
                    | (go_at_call 15; with_reducible refine HT2.out.mono ?_; rintro e w7 ⟨rfl, v1, v2, HK⟩))
                all_goals
                  go_wp2_with fail
                  go_roundg (12 - (k + 1))
                  case measure => go_light; exact hme
                  case rel => go_light; exact ⟨k + 1, hk1, rfl, by simp, HK⟩
              · obtain rfl : k = 12 := by omega
                have zk : ¬ (12 : Int) < 12 := by decide
                have HE : Hid (Below w.heap.size w wr) := HB0.out.trans (HX.out.below.mono HB0.out.size)
                clear HX HC HO HB0
                go_wp2_with fail
                go_ret
                exact ⟨rfl, HE.out⟩
end Go.Proofs.Ytjmgddaikcpinaa
