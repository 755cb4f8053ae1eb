/- Own texts, joined: R3, S9, S9B, S10. -/
import Derived.Test.YtbnlgohaaadgeaaM8
import Derived.Test.YtbnlgohaaadgeaaM9

/- DiskRoom. -/
namespace Go.Proofs.Ytbnlgohaaadgeaa
open Go.RowKit Go.Maps Go.Sort Go.Joins
set_option maxRecDepth 100000
set_option maxRecDepth 100000

/-- The disk while the law plays. -/
structure RoomS (w1 : World) (db lo hi : Nat) (va : Option Addr) (L : List OpV) (k i : Nat) (W : World) : Prop where
  mem : ∃ F p n, DK W w1.heap.size db p n (64 + 4098 * i) F ∧ Lies lo hi W (fun W => OpsIn W va L) ∧ Spare lo hi F ∧ Calm p ∧ p.pf = 0 ∧ Kept p ∧ p.room = k
  below : Below w1.heap.size w1 W
set_option maxHeartbeats 100000000 in
theorem room_any_law (room : Int) (oa : Option Addr) (oc : Nat) (ops : List OpV) (w : World) (h : OpsIn w oa ops) (hok : OpsOk w w.heap.size ops) :
    Calls Try.prog 4 #[.agg #[.int .i64 room, .slice oa ops.length oc]] w fun e w' => e = .returned (.bool true) ∧ Below w.heap.size w w' := by
  have HNUM : Hid (∀ (e : Int) W, Calls Try.prog 15 #[.int .i64 e] W fun r w' => r = .returned (.int .i64 e) ∧ w' = W) := num_is
  have bA : Below w.heap.size w (w.alloc (.cells #[.int .i64 room, .slice oa ops.length oc] 46)) := (Below.refl _ _).alloc (Nat.le_refl _) _
  have y0 : (w.alloc (.cells #[.int .i64 room, .slice oa ops.length oc] 46)).cell? ⟨w.heap.size, 0, none⟩ = some (.int .i64 room) := World.cell?_alloc_at (w := w) _ _ _ 0 rfl
  have y1 : (w.alloc (.cells #[.int .i64 room, .slice oa ops.length oc] 46)).cell? ⟨w.heap.size, 1, none⟩ = some (.slice oa ops.length oc) := World.cell?_alloc_at (w := w) _ _ _ 1 rfl
  have h1 := h.on bA
  have hok1 := hok.on bA
  obtain ⟨w1, HW⟩ : ∃ W, Hid (w.alloc (.cells #[.int .i64 room, .slice oa ops.length oc] 46) = W) := ⟨_, rfl⟩
  rw [HW.out] at bA y0 y1 h1 hok1
  have HOI : Hid (OpsIn w1 oa ops) := h1
  have HOK1 : Hid (OpsOk w1 w1.heap.size ops) := hok1.up bA.size
  have HEND : Hid (∀ W, Below w1.heap.size w1 W → Below w.heap.size w W) := fun W hb => bA.trans (hb.mono bA.size)
  have HY1 : Hid (∀ W, Below w1.heap.size w1 W → W.cell? ⟨w.heap.size, 1, none⟩ = some (.slice oa ops.length oc)) := fun W hb => cel_on hb y1
  clear h hok h1 hok1 bA y1
  go_enter Try.func4, Try.ntmps4
  go_upto_region 1 with fail
  rw [HW.out]
  have HWI : Hid (Calls Try.prog 17 #[.int .i64 room, .int .i64 400] w1 fun r w' => ∃ k : Nat, k < 400 ∧ r = .returned (.int .i64 (k : Nat)) ∧ w' = w1) := within_is room 400 (by decide) (by decide) w1
  go_wp2_with fail
  refine HWI.out.mono ?_
  rintro e w1' ⟨k, hk, rfl, hw1⟩
  subst hw1
  clear HWI y0
  have HNW : Hid (Calls Try.prog 18 #[.int .i64 (k : Nat)] w1' fun e w' => ∃ db F, e = .returned (.tuple #[.pointer (some ⟨db, 0, none⟩), .int .i64 0]) ∧ DK w' w1'.heap.size db (emptyP k) 0 64 F ∧ Below w1'.heap.size w1' w') := new_is k w1' (by omega)
  go_wp2_with fail
  refine HNW.out.mono ?_
  rintro e w2 ⟨db, F, rfl, hD2, hb2⟩
  have HRM : Hid (Calls Try.prog 19 #[.pointer (some ⟨db, 0, none⟩)] w2 fun e w' => e = .returned (.int .i64 (k : Nat)) ∧ w' = w2) := hD2.room
  have HD2 : Hid (DK w2 w1'.heap.size db (emptyP k) 0 64 F) := hD2
  have HB2 : Hid (Below w1'.heap.size w1' w2) := hb2
  clear HNW hD2 hb2
  go_wp2_with (go_at_call 15; refine (HNUM.out _ _).mono ?_; rintro e w2 ⟨rfl, rfl⟩)
  refine HRM.out.mono ?_
  rintro e w2 ⟨rfl, rfl⟩
  have y1 := HY1.out w2 HB2.out
  have HFW : Hid (Calls Try.prog 10 #[.slice oa ops.length oc] w2 fun e w' => ∃ va vc, e = .returned (.slice va (fewL ops).length vc) ∧ Lies w2.heap.size w'.heap.size w' (fun W => OpsIn W va (fewL ops)) ∧ Below w2.heap.size w2 w') := few_run oa oc ops w2 (HOI.out.on HB2.out) HOK1.out
  clear HRM
  go_wp2_with fail
  refine HFW.out.mono ?_
  rintro e w3 ⟨va, vc, rfl, hfl, hb3⟩
  clear HFW y1 HY1 HOI
  have hlen := few_len ops
  have HOK : Hid (∀ (i : Nat) (o : OpV), (fewL ops)[i]? = some o → (1 ≤ o.kind ∧ o.kind ≤ 6) ∧ o.ok w1' ∧ o.b.length ≤ 4096 ∧ ∀ ad, o.ba = some ad → 0 < o.b.length → ad.block < w1'.heap.size) := fun i o ho => by
    have hm := List.mem_of_getElem? ho
    have hq := few_kind hm
    unfold fewO at hq
    simp only [Bool.and_eq_true, decide_eq_true_eq] at hq
    exact ⟨hq, HOK1.out.few hm⟩
  obtain ⟨L, hLE⟩ : ∃ L, fewL ops = L := ⟨_, rfl⟩
  rw [hLE] at hfl hlen HOK
  rw [hLE]
  obtain ⟨N, hN⟩ : ∃ N, L.length = N := ⟨_, rfl⟩
  rw [hN] at hlen
  rw [hN]
  have hS0 : RoomS w1' db w2.heap.size w3.heap.size va L k 0 w3 := ⟨⟨F, emptyP k, 0, HD2.out.on hb3, hfl, fun q hq => .inl (HD2.out.lt q hq).2, ⟨rfl, rfl, Nat.le_refl _⟩, rfl, ⟨List.Pairwise.nil, Nat.zero_le _⟩, rfl⟩, HB2.out.trans (hb3.mono HB2.out.size)⟩
  have HLN : Hid (L.length = N) := hN
  clear hLE hN hfl hb3 HD2 HB2 HOK1
  generalize w2.heap.size = lo at *
  generalize w3.heap.size = hi at *
  go_wp2_with fail
  go_loopg [7] N (fun q s7 wx => ∃ (i : Nat), i ≤ N ∧ q = N - i ∧ s7 = .int .i64 i ∧ RoomS w1' db lo hi va L k i wx)
  case atStart => exact ⟨0, Nat.zero_le _, rfl, rfl, hS0⟩
  case round =>
    obtain ⟨i, hi0, rfl, rfl, hS⟩ := hrel
    clear hS0
    by_cases hlt : i < N
    · have hz : (i : Int) < (N : Int) := by omega
      have hwi : IntKind.i64.wrap ((i : Int) + 1) = (i : Int) + 1 := by rw [IntKind.wrap_i64]; omega
      obtain ⟨wA, hwA⟩ : ∃ x, x = wr := ⟨_, rfl⟩
      subst hwA
      obtain ⟨⟨F, p, n, hD, hL, hSp, hcalm, hpf, hkept, hro⟩, hb⟩ := hS
      obtain ⟨o, ho⟩ : ∃ o, L[i]? = some o := ⟨_, List.getElem?_eq_getElem (by have := HLN.out; omega)⟩
      have hlook : lookI p = seenI p := by unfold lookI; rw [if_neg (by rw [hcalm.1]; simp)]
      have HSE : Hid (Calls Try.prog 11 #[.pointer (some ⟨db, 0, none⟩)] wA fun e w' => ∃ a c, e = .returned (.slice a (seenI p).length c) ∧ Lies wA.heap.size w'.heap.size w' (fun W => ImgI W a (seenI p)) ∧ Below wA.heap.size wA w') := by
        have := seen_is hD (by omega)
        rw [hlook] at this
        exact this
      have hsum := used_img hD.inv
      obtain ⟨hll, hld⟩ := lookI_dt hD.inv
      rw [hlook] at hll hld
      have HUS : Hid (sumL (fun k => (dtI (seenI p) k).length) (seenI p).length = usedM p ∧ usedM p ≤ k) := ⟨hsum, by have := hkept.used; rw [hro] at this; exact this⟩
      have HLD : Hid (∀ j, j < (seenI p).length → (dtI (seenI p) j).length ≤ 1048576) := fun j hj => by have := hld j hj; omega
      have HALL : Hid (DK wA w1'.heap.size db p n (64 + 4098 * i) F ∧ Lies lo hi wA (fun W => OpsIn W va L) ∧ Spare lo hi F ∧ Calm p ∧ p.pf = 0 ∧ Kept p ∧ p.room = k ∧ Below w1'.heap.size w1' wA) := ⟨hD, hL, hSp, hcalm, hpf, hkept, hro, hb⟩
      clear hD hL hSp hcalm hpf hkept hro hb hsum hld hlook
      go_wp2_with fail
      refine HSE.out.mono ?_
      rintro e w2 ⟨sa, sc, rfl, hsee, hb2⟩
      clear HSE
      obtain ⟨M, HM⟩ : ∃ M, Hid ((seenI p).length = M) := ⟨_, rfl⟩
      rw [HM.out]
      rw [HM.out] at hll
      have HSI : Hid (ImgI w2 sa (seenI p)) := hsee.now
      have HPRE : Hid (∀ j, j ≤ M → sumL (fun k => (dtI (seenI p) k).length) j ≤ k) := fun j hj => by
        have q1 := sumL_mono (fun k => (dtI (seenI p) k).length) (i := j) (n := (seenI p).length) (by rw [HM.out]; exact hj)
        have q2 := HUS.out
        omega
      have HSEE : Hid (Lies wA.heap.size w2.heap.size w2 (fun W => ImgI W sa (seenI p))) := hsee
      have HBB2 : Hid (Below wA.heap.size wA w2) := hb2
      clear hsee hb2
      go_wp2_with fail
      go_loopg [9, 10] M (fun q s9 s10 wx => ∃ (j : Nat), j ≤ M ∧ q = M - j ∧ s10 = .int .i64 j ∧ s9 = .int .i64 (sumL (fun k => (dtI (seenI p) k).length) j : Nat) ∧ w2 = wx)
      case atStart => exact ⟨0, Nat.zero_le _, rfl, rfl, rfl, rfl⟩
      case round =>
        obtain ⟨j, hj, rfl, rfl, rfl, rfl⟩ := hrel
        by_cases hlt2 : j < M
        · have hz2 : (j : Int) < (M : Int) := by omega
          have hwj : IntKind.i64.wrap ((j : Int) + 1) = (j : Int) + 1 := by rw [IntKind.wrap_i64]; omega
          obtain ⟨b, o', rfl, h1, da, dc, h2, h3⟩ := HSI.out.at (i := j) (by rw [HM.out]; exact hlt2)
          obtain ⟨S1, hS1, HS1⟩ : ∃ S1 : Nat, ((sumL (fun k => (dtI (seenI p) k).length) j : Nat) : Int) + ((dtI (seenI p) j).length : Int) = (S1 : Int) ∧ Hid (S1 = sumL (fun k => (dtI (seenI p) k).length) (j + 1)) := ⟨_, rfl, by
            show _ = sumL (fun k => (dtI (seenI p) k).length) j + (dtI (seenI p) j).length
            omega⟩
          have hwS : IntKind.i64.wrap (S1 : Int) = (S1 : Int) := by
            have := HPRE.out (j + 1) (by omega)
            have := HS1.out
            rw [IntKind.wrap_i64]; omega
          clear h1 h3
          generalize sumL (fun k => (dtI (seenI p) k).length) j = S0 at *
          generalize (dtI (seenI p) j).length = dl at *
          go_wp2_with fail
          go_roundg (M - (j + 1))
          case measure => go_light; omega
          case rel => go_light; exact ⟨j + 1, by omega, rfl, by simp, by rw [← HS1.out], rfl⟩
        · obtain rfl : j = M := by omega
          have hz2 : ¬ ((j : Int) < (j : Int)) := by omega
          obtain ⟨a1, a2, a3, a4, a5, a6, a7, a8⟩ := HALL.out
          have hu := HUS.out
          rw [HM.out] at hu
          generalize sumL (fun k => (dtI (seenI p) k).length) j = U at hu ⊢
          have nU : ¬ ((k : Int) < (U : Int)) := by have := hu.1; have := hu.2; omega
          have HU : Hid (U = usedM p ∧ U ≤ k) := ⟨hu.1, by have := hu.1; have := hu.2; omega⟩
          clear hu HPRE HSI HUS
          have D2 := a1.on HBB2.out
          have L2 := a2.on HBB2.out
          have hlt1 : ∀ q, F q → q < wA.heap.size := fun q hq => (a1.lt q hq).2
          have hb2' := a8.trans (HBB2.out.mono a8.size)
          obtain ⟨b, off, rfl, hc⟩ := L2.now i o ho
          have q0 : w2.cell? ⟨b, off + i * 10, none⟩ = some (.int .i64 o.kind) := hc 0 _ rfl
          have q1 : w2.cell? ⟨b, off + i * 10 + 1, none⟩ = some (.int .i64 o.on) := hc 1 _ rfl
          have q2 : w2.cell? ⟨b, off + i * 10 + 2, none⟩ = some (.int .i64 o.n) := hc 2 _ rfl
          have q3 : w2.cell? ⟨b, off + i * 10 + 3, none⟩ = some (.string o.name) := hc 3 _ rfl
          have q4 : w2.cell? ⟨b, off + i * 10 + 4, none⟩ = some (.string o.tt) := hc 4 _ rfl
          have q5 : w2.cell? ⟨b, off + i * 10 + 5, none⟩ = some (.slice o.ba o.b.length o.bc) := hc 5 _ rfl
          have q6 : w2.cell? ⟨b, off + i * 10 + 6, none⟩ = some (.int .i64 o.p0) := hc 6 _ rfl
          have q7 : w2.cell? ⟨b, off + i * 10 + 7, none⟩ = some (.int .i64 o.p1) := hc 7 _ rfl
          have q8 : w2.cell? ⟨b, off + i * 10 + 8, none⟩ = some (.int .i64 o.p2) := hc 8 _ rfl
          have q9 : w2.cell? ⟨b, off + i * 10 + 9, none⟩ = some (.slice o.pa o.pn o.pc) := hc 9 _ rfl
          have bq : Below w2.heap.size w2 (w2.alloc (.cells #[.int .i64 o.kind, .int .i64 o.on, .int .i64 o.n, .string o.name, .string o.tt, .slice o.ba o.b.length o.bc, .int .i64 o.p0, .int .i64 o.p1, .int .i64 o.p2, .slice o.pa o.pn o.pc] 33)) := (Below.refl _ _).alloc (Nat.le_refl _) _
          have rq : (w2.alloc (.cells #[.int .i64 o.kind, .int .i64 o.on, .int .i64 o.n, .string o.name, .string o.tt, .slice o.ba o.b.length o.bc, .int .i64 o.p0, .int .i64 o.p1, .int .i64 o.p2, .slice o.pa o.pn o.pc] 33)).rowIs w2.heap.size 33 10 (fun j => (o.cells[j]?).getD undef) := World.rowIs_alloc w2 #[.int .i64 o.kind, .int .i64 o.on, .int .i64 o.n, .string o.name, .string o.tt, .slice o.ba o.b.length o.bc, .int .i64 o.p0, .int .i64 o.p1, .int .i64 o.p2, .slice o.pa o.pn o.pc] 33 (fun j => (o.cells[j]?).getD undef) (fun j hj => by
            show (o.cells.toArray)[j]? = some ((o.cells[j]?).getD undef)
            have hj' : j < o.cells.length := hj
            rw [List.getElem?_toArray, List.getElem?_eq_getElem hj']
            rfl)
          have HC0 : Hid (DK w2 w1'.heap.size db p n (64 + 4098 * i) F ∧ Lies lo hi w2 (fun W => OpsIn W (some ⟨b, off, none⟩) L) ∧ Below w1'.heap.size w1' w2 ∧ (∀ q, F q → q < wA.heap.size) ∧ wA.heap.size ≤ w2.heap.size) := ⟨D2, L2, hb2', hlt1, HBB2.out.size⟩
          have HST0 : Hid (Spare lo hi F ∧ Calm p ∧ p.pf = 0 ∧ Kept p ∧ p.room = k) := ⟨a3, a4, a5, a6, a7⟩
          clear a1 a2 a3 a4 a5 a6 a7 a8 D2 L2 hlt1 hb2' hc HALL
          go_upto_region 18 with fail
          clear q0 q1 q2 q3 q4 q5 q6 q7 q8 q9
          obtain ⟨W1, HW1⟩ : ∃ W, Hid (w2.alloc (.cells #[.int .i64 o.kind, .int .i64 o.on, .int .i64 o.n, .string o.name, .string o.tt, .slice o.ba o.b.length o.bc, .int .i64 o.p0, .int .i64 o.p1, .int .i64 o.p2, .slice o.pa o.pn o.pc] 33) = W) := ⟨_, rfl⟩
          rw [HW1.out]
          rw [HW1.out] at bq rq
          obtain ⟨g1, hg1⟩ : ∃ g, g = w2.heap.size := ⟨_, rfl⟩
          rw [← hg1]
          rw [← hg1] at rq
          have HG1 : Hid (g1 = w2.heap.size) := hg1
          clear hg1
          have x0 : W1.cell? ⟨g1, 0, none⟩ = some (.int .i64 o.kind) := rq.cell (i := 0) (by decide)
          have x1 : W1.cell? ⟨g1, 1, none⟩ = some (.int .i64 o.on) := rq.cell (i := 1) (by decide)
          have x2 : W1.cell? ⟨g1, 2, none⟩ = some (.int .i64 o.n) := rq.cell (i := 2) (by decide)
          have x3 : W1.cell? ⟨g1, 3, none⟩ = some (.string o.name) := rq.cell (i := 3) (by decide)
          have x4 : W1.cell? ⟨g1, 4, none⟩ = some (.string o.tt) := rq.cell (i := 4) (by decide)
          have x5 : W1.cell? ⟨g1, 5, none⟩ = some (.slice o.ba o.b.length o.bc) := rq.cell (i := 5) (by decide)
          have x6 : W1.cell? ⟨g1, 6, none⟩ = some (.int .i64 o.p0) := rq.cell (i := 6) (by decide)
          have x7 : W1.cell? ⟨g1, 7, none⟩ = some (.int .i64 o.p1) := rq.cell (i := 7) (by decide)
          have x8 : W1.cell? ⟨g1, 8, none⟩ = some (.int .i64 o.p2) := rq.cell (i := 8) (by decide)
          have x9 : W1.cell? ⟨g1, 9, none⟩ = some (.slice o.pa o.pn o.pc) := rq.cell (i := 9) (by decide)
          obtain ⟨E, hE⟩ : ∃ E, (stepM p n o.dp).2.2 = E := ⟨_, rfl⟩
          obtain ⟨hkind, hokw, hl4, hba⟩ := HOK.out i o ho
          have HOW : Hid (o.ok w1' ∧ o.b.length ≤ 4096) := ⟨hokw, hl4⟩
          have HPA : Hid (Calls Try.prog 9 #[.pointer (some ⟨db, 0, none⟩), .agg #[.int .i64 o.kind, .int .i64 o.on, .int .i64 o.n, .string o.name, .string o.tt, .slice o.ba o.b.length o.bc, .int .i64 o.p0, .int .i64 o.p1, .int .i64 o.p2, .slice o.pa o.pn o.pc]] W1 fun e w' => e = .returned (.int .i64 (E : Nat)) ∧ ∃ F', DK w' w1'.heap.size db (stepM p n o.dp).1 (stepM p n o.dp).2.1 (64 + 4098 * (i + 1)) F' ∧ (∀ W, Below w'.heap.size w' W → RoomS w1' db lo hi (some ⟨b, off, none⟩) L k (i + 1) W) ∧ ImgI w' sa (seenI p) ∧ w'.heap[g1]? = W1.heap[g1]? ∧ Below w1'.heap.size w1' w') := by
            obtain ⟨c1, c2, c3, c4, c5⟩ := HC0.out
            obtain ⟨s1, s2, s3, s4, s5⟩ := HST0.out
            have D1 := c1.on bq
            have L1 := c2.on bq
            have B1 := c3.trans (bq.mono c3.size)
            have hsee1 := HSEE.out.on bq
            have hspw : Spare wA.heap.size w2.heap.size F := fun q hq => .inl (c4 q hq)
            refine (play_step D1 B1 (by omega) o hokw hl4 hba).mono fun e w' ⟨he, F', hD', hM, hb'⟩ => ⟨by rw [he, hE], F', hD'.mono (by omega), fun W hW => ⟨⟨F', _, _, (hD'.mono (by omega)).on hW, (L1.mv s1 hM).1.on hW, (L1.mv s1 hM).2, step_calm s2 (step_same p n o.dp) hD'.inv, by rw [(step_same p n o.dp).pf]; exact s3, s4.step c1.inv o.dp, by rw [(step_off p n o.dp).2]; exact s5⟩, hb'.trans (hW.mono hb'.size)⟩, (hsee1.mv hspw hM).1.now, hM.block g1 rq.lt (fun hf => ?_), hb'⟩
            have := c4 g1 hf
            have := HG1.out
            omega
          have HPU : Hid (Inv p n (64 + 4098 * i)) := HC0.out.1.inv
          clear HC0 bq rq HW1 hba hokw HSEE HBB2
          by_cases hk : o.kind = 1
          · have hst := step_app (p := p) (n := n) hk
            obtain ⟨p', HP'⟩ : ∃ x, Hid ((appD p o.name o.b n).1 = x) := ⟨_, rfl⟩
            rw [hst] at HPA hE
            have hE' : (appD p o.name o.b n).2 = E := hE
            have HPA : Hid (Calls Try.prog 9 #[.pointer (some ⟨db, 0, none⟩), .agg #[.int .i64 o.kind, .int .i64 o.on, .int .i64 o.n, .string o.name, .string o.tt, .slice o.ba o.b.length o.bc, .int .i64 o.p0, .int .i64 o.p1, .int .i64 o.p2, .slice o.pa o.pn o.pc]] W1 fun e w' => e = .returned (.int .i64 (E : Nat)) ∧ ∃ F', DK w' w1'.heap.size db (appD p o.name o.b n).1 (appN p n o.name o.b) (64 + 4098 * (i + 1)) F' ∧ (∀ W, Below w'.heap.size w' W → RoomS w1' db lo hi (some ⟨b, off, none⟩) L k (i + 1) W) ∧ ImgI w' sa (seenI p) ∧ w'.heap[g1]? = W1.heap[g1]? ∧ Below w1'.heap.size w1' w') := HPA
            have HCM : Hid (Inv (appD p o.name o.b n).1 (appN p n o.name o.b) (64 + 4098 * (i + 1)) → Calm (appD p o.name o.b n).1) := fun hI => by
              have := step_calm (o := o.dp) (p := p) (n := n) (T := 64 + 4098 * (i + 1)) HST0.out.2.1 (step_same p n o.dp) (by rw [hst]; exact hI)
              rw [hst] at this
              exact this
            obtain ⟨r0, r44⟩ := app_adds HPU.out HST0.out.2.1 HST0.out.2.2.1 o.name o.b
            rw [hE'] at r0 r44
            have HK1 : Hid (o.kind = 1) := hk
            obtain ⟨S, hSU, HSS⟩ : ∃ S : Nat, ((U : Nat) : Int) + ((o.b.length : Nat) : Int) = (S : Int) ∧ Hid (S = U + o.b.length) := ⟨U + o.b.length, by omega, rfl⟩
            have hwS : IntKind.i64.wrap (S : Int) = (S : Int) := by have := HSS.out; have := HU.out; rw [IntKind.wrap_i64]; omega
            clear hst hE hE' hk hkind hl4
            by_cases hE0 : E = 0
            · subst hE0
              obtain ⟨hok, hfit, hnow⟩ := r0 rfl
              have nS : (S : Int) ≤ (k : Int) := by have := HSS.out; have := HU.out; have := HST0.out.2.2.2.2; omega
              clear r0 r44 hfit
              have e1 := idx_seen HPU.out HST0.out.2.1.1 hok
              rw [← e1] at hnow
              obtain ⟨OL, hOL⟩ : ∃ l, (idxI (seenI p) o.name.data.toList).getD [] = l := ⟨_, rfl⟩
              rw [hOL] at hnow
              have hOlen : OL.length ≤ 1048576 := by
                cases hx : idxI (seenI p) o.name.data.toList with
                | none => rw [hx] at hOL; rw [← hOL]; exact Nat.zero_le _
                | some l =>
                  rw [hx] at hOL
                  obtain ⟨q, hq1, hq2⟩ := idx_dt hx
                  have := HLD.out q hq1
                  rw [hq2] at this
                  rw [← hOL]
                  exact this
              have HOL : Hid ((idxI (seenI p) o.name.data.toList).getD [] = OL ∧ OL.length ≤ 1048576) := ⟨hOL, hOlen⟩
              have HNOW : Hid _ := hnow
              have HOKN : Hid (okN o.name = true) := hok
              clear e1 hnow hOL hOlen hok
              go_wp2_with fail
              refine HPA.out.mono ?_
              rintro e w3 ⟨rfl, F', d1, d2, d3, hg3, d5⟩
              rw [HK1.out] at x0
              have v0 : w3.cell? ⟨g1, 0, none⟩ = some (.int .i64 1) := by rw [World.cell?_of_block (a := ⟨g1, 0, none⟩) hg3]; exact x0
              have v3 : w3.cell? ⟨g1, 3, none⟩ = some (.string o.name) := by rw [World.cell?_of_block (a := ⟨g1, 3, none⟩) hg3]; exact x3
              have v5 : w3.cell? ⟨g1, 5, none⟩ = some (.slice o.ba o.b.length o.bc) := by rw [World.cell?_of_block (a := ⟨g1, 5, none⟩) hg3]; exact x5
              have hcal := HCM.out d1.inv
              have hidx := idx_seen d1.inv hcal.1 HOKN.out
              rw [HNOW.out] at hidx
              have hlk : lookI (appD p o.name o.b n).1 = seenI (appD p o.name o.b n).1 := by
                unfold lookI
                rw [if_neg (by rw [hcal.1]; simp)]
              have hll' := (lookI_dt d1.inv).1
              have hse := fun W (hb : Below w3.heap.size w3 W) => seen_is (d1.on hb) (by omega)
              rw [hlk] at hse hll'
              obtain ⟨SI, HSIe⟩ : ∃ x, Hid (seenI (appD p o.name o.b n).1 = x) := ⟨_, rfl⟩
              rw [HSIe.out] at hse hll' hidx
              obtain ⟨m', HMM⟩ : ∃ x, Hid (SI.length = x) := ⟨_, rfl⟩
              obtain ⟨ol, HOLn⟩ : ∃ x, Hid (OL.length = x) := ⟨_, rfl⟩
              obtain ⟨nl, HNL⟩ : ∃ x, Hid ((OL ++ o.b).length = x) := ⟨_, rfl⟩
              have HSE3 : Hid (∀ W, Below w3.heap.size w3 W → Calls Try.prog 11 #[.pointer (some ⟨db, 0, none⟩)] W fun e w' => ∃ a c, e = .returned (.slice a m' c) ∧ ImgI w' a SI ∧ Below w3.heap.size w3 w') := fun W hb => by
                have := hse W hb
                rw [HMM.out] at this
                exact this.mono fun e w' ⟨a, c, he, hl, hb'⟩ => ⟨a, c, he, hl.now, hb.trans (hb'.mono hb.size)⟩
              have HFW : Hid (Calls Try.prog 20 #[.slice sa j sc, .string o.name] w3 fun e w' => (∃ da dc bb, e = .returned (.tuple #[.slice da ol dc, .bool bb]) ∧ BL w3 da OL) ∧ w' = w3) := by
                have := find_getD (c := sc) d3 (by rw [HM.out]; omega) o.name
                rw [HOL.out.1, HM.out, HOLn.out] at this
                exact this
              have HFN : Hid (∀ W a c, ImgI W a SI → Calls Try.prog 20 #[.slice a m' c, .string o.name] W fun e w' => (∃ da dc, e = .returned (.tuple #[.slice da nl dc, .bool true]) ∧ BL W da (OL ++ o.b)) ∧ w' = W) := fun W a c hI => by
                have := find_some (c := c) hI (by omega) hidx
                rw [HMM.out, HNL.out] at this
                exact this
              have HRS : Hid (∀ W, Below w3.heap.size w3 W → RoomS w1' db lo hi (some ⟨b, off, none⟩) L k (i + 1) W) := d2
              have HOO : Hid (BL w3 o.ba o.b ∧ (o.ba = none → o.b.length = 0 ∧ o.bc = 0) ∧ o.b.length ≤ 4096) := ⟨Byt.on HOW.out.1.1 d5, HOW.out.1.2, HOW.out.2⟩
              have HV : Hid (∀ W, Below w3.heap.size w3 W → W.cell? ⟨g1, 3, none⟩ = some (.string o.name) ∧ W.cell? ⟨g1, 5, none⟩ = some (.slice o.ba o.b.length o.bc)) := fun W hb => ⟨cel_on hb v3, cel_on hb v5⟩
              clear HPA d1 d2 d3 d5 hg3 x0 x1 x2 x3 x4 x5 x6 x7 x8 x9 HPU HST0 HLD HM HCM hcal hidx hlk hll' hse HOKN HNOW HSIe HOW
              go_upto_region 23 with fail
              go_wp2_with fail
              refine HFW.out.mono ?_
              rintro e w3 ⟨⟨wa, wc, wb, rfl, hwas⟩, rfl⟩
              have HWAS : Hid (BL w3 wa OL) := hwas
              have hb0 : Below w3.heap.size w3 w3 := Below.refl _ _
              have hb0d : Below w3.heap.size w3 w3.drew := (Below.refl _ _).drew
              clear HFW hwas
              go_upto_region 24 with fail
              go_region_held3 (fun W => W.cell? ⟨g1, 3, none⟩ = some (.string o.name))
                (first | exact v3 | exact (HV.out _ hb4).1)
                (first
                  | (go_at_call 11; with_reducible refine (HSE3.out _ (by first | exact hb0 | exact hb0d)).mono ?_; rintro e w4 ⟨ta, tc, rfl, hi4, hb4⟩)
                  | (go_at_call 20; with_reducible refine (HFN.out _ _ _ hi4).mono ?_; rintro e w4 ⟨⟨na, nc, rfl, hbl⟩, rfl⟩))
              all_goals
                have hc0 : Below w4.heap.size w4 w4 := Below.refl _ _
                have hc0d : Below w4.heap.size w4 w4.drew := (Below.refl _ _).drew
                have v5' := (HV.out w4 hb4).2
                have HV5 : Hid (∀ W, Below w4.heap.size w4 W → W.cell? ⟨g1, 5, none⟩ = some (.slice o.ba o.b.length o.bc)) := fun W hb => cel_on hb v5'
                have HWS4 : Hid (BL w4 wa OL) := Byt.since HWAS.out (since_of_below hb4)
                have HO4 : Hid (BL w4 o.ba o.b) := Byt.since HOO.out.1 (since_of_below hb4)
                have HNW4 : Hid (BL w4 na (OL ++ o.b)) := hbl
                have HAP : Hid (∀ W v, OwnL W w4.heap.size v OL → Below w4.heap.size w4 W → ∃ va vc w', (Builtin.append_ #[29, 29] 29 #[v, .slice o.ba o.b.length o.bc]).run Try.prog W = .ok (.slice va nl vc) w' ∧ BL w' va (OL ++ o.b) ∧ Below w4.heap.size w4 w') := fun W v ho hb => by
                  have := appd_is ho hb o.ba o.bc HO4.out HOO.out.2.1 (by have := HOL.out.2; have := HOO.out.2.2; omega)
                  rw [← List.length_append, HNL.out] at this
                  exact this
                have HCP : Hid (∀ W, Below w4.heap.size w4 W → Calls Try.prog 22 #[.slice wa ol wc] W fun e w' => ∃ g va vc w6, e = .returned (.slice (some ⟨g, 0, none⟩) ol ol) ∧ Hid ((Builtin.append_ #[29, 29] 29 #[.slice (some ⟨g, 0, none⟩) ol ol, .slice o.ba o.b.length o.bc]).run Try.prog w' = .ok (.slice va nl vc) w6) ∧ BL w6 va (OL ++ o.b) ∧ Below w4.heap.size w4 w6 ∧ Below w4.heap.size w4 w') := fun W hb => by
                  have := cpy_is wa wc OL (by have := HOL.out.2; omega) HWS4.out hb
                  rw [HOLn.out] at this
                  refine this.mono fun e w' ⟨g, he, ho, hb'⟩ => ?_
                  obtain ⟨va, vc, w6, r1, r2, r3⟩ := HAP.out w' _ ho hb'
                  exact ⟨g, va, vc, w6, he, r1, r2, r3, hb'⟩
                have HEQ : Hid (∀ W a c d, BL W a (OL ++ o.b) → Below w4.heap.size w4 W → Calls Try.prog 21 #[.slice na nl c, .slice a nl d] W fun e w' => e = .returned (.bool true) ∧ Below w4.heap.size w4 w') := fun W a c d ha hb => by
                  have := eql_is (OL ++ o.b) na a c d (Byt.since HNW4.out (since_of_below hb)) ha (by rw [List.length_append]; have := HOL.out.2; have := HOO.out.2.2; omega) hb
                  rw [HNL.out] at this
                  exact this
                have HRS4 : Hid (∀ W, Below w4.heap.size w4 W → RoomS w1' db lo hi (some ⟨b, off, none⟩) L k (i + 1) W) := fun W hb => HRS.out W (hb4.trans (hb.mono hb4.size))
                clear HSE3 HFN HRS HOO HV HWAS HWS4 HO4 HNW4 hb0 hb0d hi4 hb4 hbl v0 v3 v5
                go_upto_region 25 with fail
                go_region_held3 (fun W => W.cell? ⟨g1, 5, none⟩ = some (.slice o.ba o.b.length o.bc))
                  (first | exact v5' | exact HV5.out _ hb5 | exact HV5.out _ hb6 | exact HV5.out _ hb7)
                  (first
                    | (go_at_call 22; with_reducible refine (HCP.out _ (by first | exact hc0 | exact hc0d)).mono ?_; rintro e w5 ⟨g5, va6, vc6, w6, rfl, HR, hbl6, hb6, hb5⟩)
                    | (refine step_appsG (by rfl) _ _ 29 (by rfl) _ _ _ (by rfl) (by rfl) HR.out ?_)
                    | (go_at_call 21; with_reducible refine (HEQ.out _ _ _ _ hbl6 hb6).mono ?_; rintro e w7 ⟨rfl, hb7⟩))
                all_goals
                  have hS7 := HRS4.out w7 hb7
                  clear HCP HAP HEQ HRS4 HV5 v5' hc0 hc0d
                  go_wp2_with fail
                  go_roundg (N - (i + 1))
                  case measure => go_light; omega
                  case rel => go_light; exact ⟨i + 1, by omega, rfl, by simp, hS7⟩
            · by_cases hE44 : E = 44
              · subst hE44
                obtain ⟨hnfit, hps⟩ := r44 rfl
                have nS : ¬ ((S : Int) ≤ (k : Int)) := by have := HSS.out; have := HU.out; have := HST0.out.2.2.2.2; omega
                rw [hps] at HPA
                have hlk : lookI (strokeM p) = seenI p := by
                  rw [HST0.out.2.1.str]
                  show lookI p = seenI p
                  unfold lookI
                  rw [if_neg (by rw [HST0.out.2.1.1]; simp)]
                have HLK : Hid (lookI (strokeM p) = seenI p) := hlk
                clear r0 r44 hnfit hps hlk hE0
                go_wp2_with fail
                refine HPA.out.mono ?_
                rintro e w3 ⟨rfl, F', d1, d2, d3, hg3, d5⟩
                rw [HK1.out] at x0
                have v0 : w3.cell? ⟨g1, 0, none⟩ = some (.int .i64 1) := by rw [World.cell?_of_block (a := ⟨g1, 0, none⟩) hg3]; exact x0
                have v3 : w3.cell? ⟨g1, 3, none⟩ = some (.string o.name) := by rw [World.cell?_of_block (a := ⟨g1, 3, none⟩) hg3]; exact x3
                have v5 : w3.cell? ⟨g1, 5, none⟩ = some (.slice o.ba o.b.length o.bc) := by rw [World.cell?_of_block (a := ⟨g1, 5, none⟩) hg3]; exact x5
                have HSE3 : Hid (Calls Try.prog 11 #[.pointer (some ⟨db, 0, none⟩)] w3 fun e w' => ∃ a c, e = .returned (.slice a j c) ∧ ImgI w' a (seenI p) ∧ Below w3.heap.size w3 w') := by
                  have := seen_is d1 (by omega)
                  rw [HLK.out, HM.out] at this
                  exact this.mono fun e w' ⟨a, c, he, hl, hb'⟩ => ⟨a, c, he, hl.now, hb'⟩
                have HIM3 : Hid (∀ W a c, ImgI W a (seenI p) → Below w3.heap.size w3 W → Calls Try.prog 16 #[.slice a j c, .slice sa j sc] W fun e w' => e = .returned (.bool true) ∧ Below w3.heap.size w3 w') := fun W a c h1 hb => by
                  have := image_is c sc h1 (d3.on hb) (by rw [HM.out]; omega) HLD.out
                  rw [HM.out] at this
                  exact this.mono fun e w' ⟨he, m, hm⟩ => ⟨he, by rw [hm]; exact below_drewN hb m⟩
                have HRS : Hid (∀ W, Below w3.heap.size w3 W → RoomS w1' db lo hi (some ⟨b, off, none⟩) L k (i + 1) W) := d2
                clear HPA d1 d2 d3 d5 hg3 x0 x1 x2 x3 x4 x5 x6 x7 x8 x9 HPU HST0 HLK HLD HM
                go_wp2_with fail
                refine HSE3.out.mono ?_
                rintro e w4 ⟨ta, tc, rfl, hi4, hb4⟩
                go_wp2_with fail
                refine (HIM3.out w4 _ _ hi4 hb4).mono ?_
                rintro e w5 ⟨rfl, hb5⟩
                have hS5 := HRS.out w5 hb5
                clear HSE3 HIM3 HRS v0 v3 v5 hi4 hb4 hb5
                go_wp2_with fail
                go_roundg (N - (i + 1))
                case measure => go_light; omega
                case rel => go_light; exact ⟨i + 1, by omega, rfl, by simp, hS5⟩
              · have k0 : (((E : Nat) : Int) != 0) = true := bne_iff_ne.2 (by omega)
                have k44 : (((E : Nat) : Int) != 44) = true := bne_iff_ne.2 (by omega)
                clear r0 r44 hE0 hE44
                go_wp2_with fail
                refine HPA.out.mono ?_
                rintro e w3 ⟨rfl, F', d1, d2, d3, hg3, d5⟩
                rw [HK1.out] at x0
                have v0 : w3.cell? ⟨g1, 0, none⟩ = some (.int .i64 1) := by rw [World.cell?_of_block (a := ⟨g1, 0, none⟩) hg3]; exact x0
                have v3 : w3.cell? ⟨g1, 3, none⟩ = some (.string o.name) := by rw [World.cell?_of_block (a := ⟨g1, 3, none⟩) hg3]; exact x3
                have v5 : w3.cell? ⟨g1, 5, none⟩ = some (.slice o.ba o.b.length o.bc) := by rw [World.cell?_of_block (a := ⟨g1, 5, none⟩) hg3]; exact x5
                have hS4 := d2 w3 (Below.refl _ _)
                clear HPA d1 d2 d3 d5 hg3 x0 x1 x2 x3 x4 x5 x6 x7 x8 x9 HPU HST0 HLD HM
                go_wp2_with fail
                go_roundg (N - (i + 1))
                case measure => go_light; omega
                case rel => go_light; exact ⟨i + 1, by omega, rfl, by simp, hS4⟩
          · have kb : (o.kind != 1) = true := bne_iff_ne.2 hk
            have kb2 : (o.kind == 1) = false := beq_eq_false_iff_ne.2 hk
            clear hk hE hkind
            go_wp2_with fail
            refine HPA.out.mono ?_
            rintro e w3 ⟨rfl, F', d1, d2, d3, hg3, d5⟩
            have v0 : w3.cell? ⟨g1, 0, none⟩ = some (.int .i64 o.kind) := by rw [World.cell?_of_block (a := ⟨g1, 0, none⟩) hg3]; exact x0
            have v3 : w3.cell? ⟨g1, 3, none⟩ = some (.string o.name) := by rw [World.cell?_of_block (a := ⟨g1, 3, none⟩) hg3]; exact x3
            have v5 : w3.cell? ⟨g1, 5, none⟩ = some (.slice o.ba o.b.length o.bc) := by rw [World.cell?_of_block (a := ⟨g1, 5, none⟩) hg3]; exact x5
            have hS4 := d2 w3 (Below.refl _ _)
            clear HPA d1 d2 d3 d5 hg3 x0 x1 x2 x3 x4 x5 x6 x7 x8 x9 HPU HST0 HLD HM
            go_wp2_with fail
            go_roundg (N - (i + 1))
            case measure => go_light; omega
            case rel => go_light; exact ⟨i + 1, by omega, rfl, by simp, hS4⟩
    · obtain rfl : i = N := by omega
      have hz : ¬ ((i : Int) < (i : Int)) := by omega
      have HB : Hid (Below w1'.heap.size w1' wr) := hS.below
      have hk0 : (0 : Int) ≤ (k : Int) := by omega
      clear hS
      go_wp2_with fail
      go_ret
      exact ⟨rfl, HEND.out _ HB.out⟩
end Go.Proofs.Ytbnlgohaaadgeaa

/- DiskSafe: what its two loops of steps keep. -/
namespace Go.Proofs.Ytbnlgohaaadgeaa
open Go.RowKit Go.Maps Go.Sort Go.Joins
set_option maxRecDepth 100000
set_option maxRecDepth 100000

theorem RoomS.play {w1 W : World} {db lo hi : Nat} {va : Option Addr} {L : List OpV} {k i : Nat} (h : RoomS w1 db lo hi va L k i W) (hi2 : i ≤ 1000) {o : OpV} (ho : o.ok w1) (hl : o.b.length ≤ 4096) (hm : ∀ ad, o.ba = some ad → 0 < o.b.length → ad.block < w1.heap.size) :
    Calls Try.prog 9 #[.pointer (some ⟨db, 0, none⟩), o.v] W fun e w' => ∃ E : Int, e = .returned (.int .i64 E) ∧ RoomS w1 db lo hi va L k (i + 1) w' := by
  obtain ⟨⟨F, p, n, hD, hL, hSp, hc, hpf, hk, hro⟩, hb⟩ := h
  refine (play_step hD hb (by omega) o ho hl hm).mono fun e w' ⟨he, F', hD', hM, hb'⟩ => ⟨_, he, ⟨⟨F', _, _, hD'.mono (by omega), (hL.mv hSp hM).1, (hL.mv hSp hM).2, step_calm hc (step_same p n o.dp) hD'.inv, by rw [(step_same p n o.dp).pf]; exact hpf, hk.step hD.inv o.dp, by rw [(step_off p n o.dp).2]; exact hro⟩, hb'⟩⟩

/-- The disk while appends are played behind what is safe. -/
structure AppS (w1 : World) (db lo hi : Nat) (va : Option Addr) (L : List OpV) (slo shi : Nat) (sa : Option Addr) (SI : Image) (p0 : DM) (T i : Nat) (W : World) : Prop where
  mem : ∃ F q n, DK W w1.heap.size db q n (T + 4098 * i) F ∧ Lies lo hi W (fun W => OpsIn W va L) ∧ Spare lo hi F ∧ Lies slo shi W (fun W => ImgC W sa SI) ∧ Spare slo shi F ∧ Apps p0 q
  below : Below w1.heap.size w1 W
theorem AppS.skip {w1 W : World} {db lo hi : Nat} {va : Option Addr} {L : List OpV} {slo shi : Nat} {sa : Option Addr} {SI : Image} {p0 : DM} {T i : Nat} (h : AppS w1 db lo hi va L slo shi sa SI p0 T i W) : AppS w1 db lo hi va L slo shi sa SI p0 T (i + 1) W := by
  obtain ⟨⟨F, q, n, hD, r⟩, hb⟩ := h
  exact ⟨⟨F, q, n, hD.mono (by omega), r⟩, hb⟩
theorem AppS.play {w1 W : World} {db lo hi : Nat} {va : Option Addr} {L : List OpV} {slo shi : Nat} {sa : Option Addr} {SI : Image} {p0 : DM} {T i : Nat} (h : AppS w1 db lo hi va L slo shi sa SI p0 T i W) (hT : T ≤ 1000000000) (hi2 : i ≤ 1000) {o : OpV} (hk : o.kind = 1) (ho : o.ok w1) (hl : o.b.length ≤ 4096) (hm : ∀ ad, o.ba = some ad → 0 < o.b.length → ad.block < w1.heap.size) :
    Calls Try.prog 9 #[.pointer (some ⟨db, 0, none⟩), o.v] W fun e w' => ∃ E : Int, e = .returned (.int .i64 E) ∧ AppS w1 db lo hi va L slo shi sa SI p0 T (i + 1) w' := by
  obtain ⟨⟨F, q, n, hD, hL, hSp, hS, hSs, hA⟩, hb⟩ := h
  refine (play_step hD hb (by omega) o ho hl hm).mono fun e w' ⟨he, F', hD', hM, hb'⟩ => ⟨_, he, ⟨⟨F', _, _, hD'.mono (by omega), (hL.mv hSp hM).1, (hL.mv hSp hM).2, (hS.mv hSs hM).1, (hS.mv hSs hM).2, ?_⟩, hb'⟩⟩
  rw [step_app hk]
  exact hA.app hD.inv o.name o.b
end Go.Proofs.Ytbnlgohaaadgeaa

/- image over greater files. -/
namespace Go.Proofs.Ytbnlgohaaadgeaa
open Go.RowKit Go.Maps Go.Sort
set_option maxRecDepth 100000
set_option maxRecDepth 100000

set_option maxHeartbeats 1600000 in
theorem eqImage_wide (a b : Option Addr) (n c d : Nat) (nm : Nat → ByteArray) (dl : Nat → Nat) (dx : Nat → Nat → Nat) (w : World) (ha : Img w a n nm dl dx) (hb : Img w b n nm dl dx) (hn : n ≤ 1048576) (hd : ∀ i, i < n → dl i ≤ 4194304) :
    Calls Try.prog 48 #[.slice a n c, .slice b n d] w fun e w' => e = .returned (.bool true) ∧ ∃ m, w' = w.drewN m := by
  have HA : Hid _ := ha
  have HB : Hid _ := hb
  have HL : Hid _ := hd
  have hm : (n : Int) ≤ 1048576 := by omega
  clear ha hb hd
  go_enter Try.func48, Try.ntmps48
  go_wp2_with fail
  go_loopg [5] n (fun q s5 wx => ∃ (i m : Nat), i ≤ n ∧ q = n - i ∧ s5 = .int .i64 i ∧ wx = w.drewN m)
  case atStart => exact ⟨0, 0, Nat.zero_le _, rfl, rfl, rfl⟩
  case round =>
    obtain ⟨i, m, hi, rfl, rfl, rfl⟩ := hrel
    by_cases hlt : i < n
    · obtain ⟨b1, o1, rfl, p1, da1, dc1, p2, p3⟩ := HA.out i hlt
      obtain ⟨b2, o2, rfl, q1, da2, dc2, q2, q3⟩ := HB.out i hlt
      have r1 : (w.drewN m).cell? ⟨b1, o1 + i * 2, none⟩ = some (.string (nm i)) := p1
      have r2 : (w.drewN m).cell? ⟨b1, o1 + i * 2 + 1, none⟩ = some (.slice da1 (dl i) dc1) := p2
      have t1 : (w.drewN m).cell? ⟨b2, o2 + i * 2, none⟩ = some (.string (nm i)) := q1
      have t2 : (w.drewN m).cell? ⟨b2, o2 + i * 2 + 1, none⟩ = some (.slice da2 (dl i) dc2) := q2
      have hz : (i : Int) < (n : Int) := by omega
      have HC : Hid (∀ k, Calls Try.prog 49 #[.slice da1 (dl i) dc1, .slice da2 (dl i) dc2] ((w.drewN m).drewN k) fun e w' => e = .returned (.int .i64 0) ∧ ∃ j, w' = ((w.drewN m).drewN k).drewN j) := fun k => cmp_same da1 da2 (dl i) dc1 dc2 (dx i) ((w.drewN m).drewN k) ((p3.drewN m).drewN k) ((q3.drewN m).drewN k) (by have := HL.out i hlt; omega)
      have hne : ∀ W, (binOp .neq 9 (.string (nm i)) (.string (nm i))).run Try.prog W = .ok (.bool false) W := fun W => by simp [binOp, Op.stringOp]
      have HD : Hid (∀ n, (w.drewN m).drewN n = w.drewN (m + n)) := fun n => World.drewN_drewN _ _ _
      generalize w.drewN m = wd at *
      clear p1 p2 p3 q1 q2 q3
      generalize nm i = s at *
      generalize dl i = d at *
      go_wp2_with fail
      go_quiet (exact Calls.quiet_of (HC.out _))
      go_wp2_with fail
      go_roundg (n - (i + 1))
      case measure => go_light; omega
      case rel => go_light; exact ⟨i + 1, _, by omega, rfl, by simp, HD.out _⟩
    · obtain rfl : i = n := by omega
      go_wp2_with fail
      go_ret
      exact ⟨rfl, m, rfl⟩

theorem image_wide (a b : Option Addr) (n c d : Nat) (nm : Nat → ByteArray) (dl : Nat → Nat) (dx : Nat → Nat → Nat) (w : World) (ha : Img w a n nm dl dx) (hb : Img w b n nm dl dx) (hn : n ≤ 1048576) (hd : ∀ i, i < n → dl i ≤ 4194304) :
    Calls Try.prog 16 #[.slice a n c, .slice b n d] w fun e w' => e = .returned (.bool true) ∧ ∃ m, w' = w.drewN m := by
  have hc := eqImage_wide a b n c d nm dl dx w ha hb hn hd
  clear ha hb hd
  go_enter Try.func16, Try.ntmps16
  go_wp2_with fail
  refine hc.mono ?_
  rintro e w1 ⟨rfl, m, rfl⟩
  go_wp2_with fail
  go_ret
  exact ⟨rfl, m, rfl⟩


theorem image_isW {a b : Option Addr} {I : Image} {w : World} (c d : Nat) (ha : ImgI w a I) (hb : ImgI w b I) (hn : I.length ≤ 1000) (hd : ∀ i, i < I.length → (dtI I i).length ≤ 4194304) :
    Calls Try.prog 16 #[.slice a I.length c, .slice b I.length d] w fun e w' => e = .returned (.bool true) ∧ ∃ m, w' = w.drewN m :=
  image_wide a b I.length c d (nmI I) _ _ w ha hb (by omega) hd
end Go.Proofs.Ytbnlgohaaadgeaa

/- DiskSafe. -/
namespace Go.Proofs.Ytbnlgohaaadgeaa
open Go.RowKit Go.Maps Go.Sort Go.Joins
set_option maxRecDepth 100000
set_option maxRecDepth 100000

theorem intInfoS : (Try.prog.info? 3).map (fun i => (i.zero, i.size, i.bytes)) = some (some (.int .i64 0), 1, 8) := by kernel_rfl
def safeO (g : Nat) : OpV := ⟨1, 0, 0, ⟨#[115, 97, 102, 101]⟩, ⟨#[]⟩, some ⟨g, 0, none⟩, 5, [98, 121, 116, 101, 115], 0, 0, 0, none, 0, 0⟩
theorem len_at {p : DM} {n T : Nat} (hI : Inv p n T) {t : List UInt8} {b : Nat} (h : p.seen.atKey (.string t) .nil = .held b) : 0 < (seenI p).length := by
  obtain ⟨i, hi⟩ := at_ent hI.ents h
  have := (List.getElem?_eq_some_iff.1 hi).1
  unfold seenI
  rw [List.length_map]
  omega
theorem safe_some {p : DM} {n T T' n' : Nat} (hI : Inv p n T) (hc : Calm p) (hpf : p.pf = 0) (s : ByteArray) (hs : okN s = true) (l : List Nat) (hr : l.length + usedM p ≤ p.room) (hI' : Inv (appD p s l n).1 n' T') : 0 < (seenI (appD p s l n).1).length := by
  obtain ⟨r0, r44⟩ := app_adds hI hc hpf s l
  obtain ⟨x, e, hf⟩ : ∃ x e, findM p.off p.seen s = (x, e) := ⟨_, _, rfl⟩
  cases x with
  | some b =>
    have hat := (findM_ok hf).2.2
    have hs' : (appD p s l n).1.seen = p.seen := by
      unfold appD
      rw [hf]
      show (if _ then _ else _ : DM × Nat).1.seen = _
      split <;> rfl
    exact len_at hI' (by rw [hs']; exact hat)
  | none =>
    have he : e = 42 := by
      unfold findM at hf
      rw [hc.1, hs] at hf
      simp only [Bool.false_eq_true, if_false, if_true] at hf
      split at hf
      · cases hf
      · exact (Prod.mk.inj hf).2.symm
    subst he
    by_cases h64 : 64 ≤ size p.seen
    · have hs' : (appD p s l n).1 = p := by
        unfold appD
        rw [hf]
        show (if (42 : Nat) = 42 then (if 64 ≤ size p.seen then (p, 41) else _) else _ : DM × Nat).1 = _
        rw [if_pos rfl, if_pos h64]
      rw [hs']
      obtain ⟨es, e, _, _⟩ := hI.ents
      unfold seenI
      rw [List.length_map]
      rw [e] at h64 ⊢
      show 0 < es.length
      have : 64 ≤ es.length := h64
      omega
    · have h0 : (appD p s l n).2 = 0 := by
        have hF0 : fullB (p.st + 1) p.ah p.pf p.pt = false := by unfold fullB; rw [hpf]; rfl
        have hfull : fullM (strokeM p) l.length = false := by
          unfold fullM
          show (fullB (p.st + 1) p.ah p.pf p.pt || !decide (l.length + usedM p ≤ p.room)) = _
          rw [hF0, decide_eq_true hr]
          rfl
        unfold appD
        rw [hf, hfull]
        show (if (42 : Nat) = 42 then (if 64 ≤ size p.seen then (p, 41) else if false = true then _ else _) else _ : DM × Nat).2 = _
        rw [if_pos rfl, if_neg h64, if_neg (by simp)]
        exact hc.err
      obtain ⟨_, _, hn⟩ := r0 h0
      cases hg : (findM (appD p s l n).1.off (appD p s l n).1.seen s) with
      | mk x e =>
        rw [hg] at hn
        cases x with
        | none => cases hn
        | some b => exact len_at hI' (findM_ok hg).2.2
theorem AppS.ops {w1 W : World} {db lo hi : Nat} {va : Option Addr} {L : List OpV} {slo shi : Nat} {sa : Option Addr} {SI : Image} {p0 : DM} {T i : Nat} (h : AppS w1 db lo hi va L slo shi sa SI p0 T i W) : Lies lo hi W (fun W => OpsIn W va L) := by
  obtain ⟨⟨_, _, _, _, hL, _⟩, _⟩ := h
  exact hL
theorem RoomS.ops {w1 W : World} {db lo hi : Nat} {va : Option Addr} {L : List OpV} {k i : Nat} (h : RoomS w1 db lo hi va L k i W) : Lies lo hi W (fun W => OpsIn W va L) := by
  obtain ⟨⟨_, _, _, _, hL, _⟩, _⟩ := h
  exact hL
set_option maxHeartbeats 100000000 in
theorem safe_any (A : PowA) (w : World) (h : PowIn w w.heap.size A) :
    Calls Try.prog 5 #[.agg #[.slice A.oa A.ops.length A.oc, .int .i64 A.off, .slice A.pa A.ps.length A.pc, .slice A.ma A.more.length A.mc, .slice A.na A.nx.length A.nc]] w fun e w' => e = .returned (.bool true) ∧ Below w.heap.size w w' := by
  have HNUM : Hid (∀ (e : Int) W, Calls Try.prog 15 #[.int .i64 e] W fun r w' => r = .returned (.int .i64 e) ∧ w' = W) := num_is
  have bA : Below w.heap.size w (w.alloc (.cells #[.slice A.oa A.ops.length A.oc, .int .i64 A.off, .slice A.pa A.ps.length A.pc, .slice A.ma A.more.length A.mc, .slice A.na A.nx.length A.nc] 25)) := (Below.refl _ _).alloc (Nat.le_refl _) _
  have y0 : (w.alloc (.cells #[.slice A.oa A.ops.length A.oc, .int .i64 A.off, .slice A.pa A.ps.length A.pc, .slice A.ma A.more.length A.mc, .slice A.na A.nx.length A.nc] 25)).cell? ⟨w.heap.size, 0, none⟩ = some (.slice A.oa A.ops.length A.oc) := World.cell?_alloc_at (w := w) _ _ _ 0 rfl
  have y2 : (w.alloc (.cells #[.slice A.oa A.ops.length A.oc, .int .i64 A.off, .slice A.pa A.ps.length A.pc, .slice A.ma A.more.length A.mc, .slice A.na A.nx.length A.nc] 25)).cell? ⟨w.heap.size, 2, none⟩ = some (.slice A.pa A.ps.length A.pc) := World.cell?_alloc_at (w := w) _ _ _ 2 rfl
  have y3 : (w.alloc (.cells #[.slice A.oa A.ops.length A.oc, .int .i64 A.off, .slice A.pa A.ps.length A.pc, .slice A.ma A.more.length A.mc, .slice A.na A.nx.length A.nc] 25)).cell? ⟨w.heap.size, 3, none⟩ = some (.slice A.ma A.more.length A.mc) := World.cell?_alloc_at (w := w) _ _ _ 3 rfl
  have y4 : (w.alloc (.cells #[.slice A.oa A.ops.length A.oc, .int .i64 A.off, .slice A.pa A.ps.length A.pc, .slice A.ma A.more.length A.mc, .slice A.na A.nx.length A.nc] 25)).cell? ⟨w.heap.size, 4, none⟩ = some (.slice A.na A.nx.length A.nc) := World.cell?_alloc_at (w := w) _ _ _ 4 rfl
  have hPI : PowIn (w.alloc (.cells #[.slice A.oa A.ops.length A.oc, .int .i64 A.off, .slice A.pa A.ps.length A.pc, .slice A.ma A.more.length A.mc, .slice A.na A.nx.length A.nc] 25)) w.heap.size A := h.on bA
  obtain ⟨w1, HW⟩ : ∃ W, Hid (w.alloc (.cells #[.slice A.oa A.ops.length A.oc, .int .i64 A.off, .slice A.pa A.ps.length A.pc, .slice A.ma A.more.length A.mc, .slice A.na A.nx.length A.nc] 25) = W) := ⟨_, rfl⟩
  rw [HW.out] at bA y0 y2 y3 y4 hPI
  have HP : Hid (PowIn w1 w1.heap.size A) := hPI.up bA.size
  have HEND : Hid (∀ W, Below w1.heap.size w1 W → Below w.heap.size w W) := fun W hb => bA.trans (hb.mono bA.size)
  have HBX : Hid (∀ W, Below w1.heap.size w1 W → W.cell? ⟨w.heap.size, 0, none⟩ = some (.slice A.oa A.ops.length A.oc) ∧ W.cell? ⟨w.heap.size, 2, none⟩ = some (.slice A.pa A.ps.length A.pc) ∧ W.cell? ⟨w.heap.size, 3, none⟩ = some (.slice A.ma A.more.length A.mc) ∧ W.cell? ⟨w.heap.size, 4, none⟩ = some (.slice A.na A.nx.length A.nc)) := fun W hb => ⟨cel_on hb y0, cel_on hb y2, cel_on hb y3, cel_on hb y4⟩
  clear h hPI bA y0 y2 y3 y4
  go_enter Try.func5, Try.ntmps5
  go_upto_region 1 with fail
  rw [HW.out]
  go_wp2_with fail
  refine (open_is w1).mono ?_
  rintro e w2 ⟨db, F, rfl, hD2, hb2⟩
  obtain ⟨b0, b2, b3, b4⟩ := HBX.out w2 hb2
  clear b2 b3 b4
  have HFW : Hid (Calls Try.prog 10 #[.slice A.oa A.ops.length A.oc] w2 fun e w' => ∃ va vc, e = .returned (.slice va (fewL A.ops).length vc) ∧ Lies w2.heap.size w'.heap.size w' (fun W => OpsIn W va (fewL A.ops)) ∧ Below w2.heap.size w2 w') := few_run A.oa A.oc A.ops w2 (HP.out.ops.on hb2) HP.out.ok
  have HD2 : Hid (DK w2 w1.heap.size db (emptyP 67108864) 0 64 F ∧ Below w1.heap.size w1 w2) := ⟨hD2, hb2⟩
  clear hD2 hb2
  go_wp2_with fail
  refine HFW.out.mono ?_
  rintro e w3 ⟨va, vc, rfl, hfl, hb3⟩
  clear HFW b0
  have hlen := few_len A.ops
  have HOK : Hid (∀ (i : Nat) (o : OpV), (fewL A.ops)[i]? = some o → o.ok w1 ∧ o.b.length ≤ 4096 ∧ ∀ ad, o.ba = some ad → 0 < o.b.length → ad.block < w1.heap.size) := fun i o ho => HP.out.ok.few (List.mem_of_getElem? ho)
  obtain ⟨L, hLE⟩ : ∃ L, fewL A.ops = L := ⟨_, rfl⟩
  rw [hLE] at hfl hlen HOK
  rw [hLE]
  obtain ⟨N, hN⟩ : ∃ N, L.length = N := ⟨_, rfl⟩
  rw [hN] at hlen
  rw [hN]
  have hS0 : RoomS w1 db w2.heap.size w3.heap.size va L 67108864 0 w3 := ⟨⟨F, emptyP 67108864, 0, HD2.out.1.on hb3, hfl, fun q hq => .inl (HD2.out.1.lt q hq).2, ⟨rfl, rfl, Nat.le_refl _⟩, rfl, ⟨List.Pairwise.nil, Nat.zero_le _⟩, rfl⟩, HD2.out.2.trans (hb3.mono HD2.out.2.size)⟩
  have HLN : Hid (L.length = N) := hN
  clear hLE hN hfl hb3 HD2
  generalize w2.heap.size = lo at *
  generalize w3.heap.size = hi at *
  go_wp2_with fail
  go_loopg [5] N (fun q s5 wx => ∃ (i : Nat), i ≤ N ∧ q = N - i ∧ s5 = .int .i64 i ∧ RoomS w1 db lo hi va L 67108864 i wx)
  case atStart => exact ⟨0, Nat.zero_le _, rfl, rfl, hS0⟩
  case round =>
    obtain ⟨i, hi0, rfl, rfl, hS⟩ := hrel
    clear hS0
    by_cases hlt : i < N
    · have hz : (i : Int) < (N : Int) := by omega
      have hwi : IntKind.i64.wrap ((i : Int) + 1) = (i : Int) + 1 := by rw [IntKind.wrap_i64]; omega
      obtain ⟨o, ho⟩ : ∃ o, L[i]? = some o := ⟨_, List.getElem?_eq_getElem (by have := HLN.out; omega)⟩
      obtain ⟨b, off, rfl, hc⟩ := (RoomS.ops hS).now i o ho
      have q0 : wr.cell? ⟨b, off + i * 10, none⟩ = some (.int .i64 o.kind) := hc 0 _ rfl
      have q1 : wr.cell? ⟨b, off + i * 10 + 1, none⟩ = some (.int .i64 o.on) := hc 1 _ rfl
      have q2 : wr.cell? ⟨b, off + i * 10 + 2, none⟩ = some (.int .i64 o.n) := hc 2 _ rfl
      have q3 : wr.cell? ⟨b, off + i * 10 + 3, none⟩ = some (.string o.name) := hc 3 _ rfl
      have q4 : wr.cell? ⟨b, off + i * 10 + 4, none⟩ = some (.string o.tt) := hc 4 _ rfl
      have q5 : wr.cell? ⟨b, off + i * 10 + 5, none⟩ = some (.slice o.ba o.b.length o.bc) := hc 5 _ rfl
      have q6 : wr.cell? ⟨b, off + i * 10 + 6, none⟩ = some (.int .i64 o.p0) := hc 6 _ rfl
      have q7 : wr.cell? ⟨b, off + i * 10 + 7, none⟩ = some (.int .i64 o.p1) := hc 7 _ rfl
      have q8 : wr.cell? ⟨b, off + i * 10 + 8, none⟩ = some (.int .i64 o.p2) := hc 8 _ rfl
      have q9 : wr.cell? ⟨b, off + i * 10 + 9, none⟩ = some (.slice o.pa o.pn o.pc) := hc 9 _ rfl
      have HPL : Hid (Calls Try.prog 9 #[.pointer (some ⟨db, 0, none⟩), .agg #[.int .i64 o.kind, .int .i64 o.on, .int .i64 o.n, .string o.name, .string o.tt, .slice o.ba o.b.length o.bc, .int .i64 o.p0, .int .i64 o.p1, .int .i64 o.p2, .slice o.pa o.pn o.pc]] wr fun e w' => ∃ E : Int, e = .returned (.int .i64 E) ∧ RoomS w1 db lo hi (some ⟨b, off, none⟩) L 67108864 (i + 1) w') := by
        obtain ⟨o1, o2, o3⟩ := HOK.out i o ho
        exact hS.play (by omega) o1 o2 o3
      clear hS hc HOK ho HLN
      go_wp2_with fail
      refine HPL.out.mono ?_
      rintro e w5 ⟨E5, rfl, hS5⟩
      clear HPL q0 q1 q2 q3 q4 q5 q6 q7 q8 q9
      go_wp2_with fail
      go_roundg (N - (i + 1))
      case measure => go_light; omega
      case rel => go_light; exact ⟨i + 1, by omega, rfl, by simp, hS5⟩
    · obtain rfl : i = N := by omega
      obtain ⟨wA, hwA⟩ : ∃ x, x = wr := ⟨_, rfl⟩
      subst hwA
      have hz : ¬ ((i : Int) < (i : Int)) := by omega
      obtain ⟨⟨F, p, n, hD, _, _, hcalm, hpf, hkept, hro⟩, hb⟩ := hS
      have kc := Lib.run_convert_bytes_const (P := Try.prog) wA 29 5 #[.int .u8 98, .int .u8 121, .int .u8 116, .int .u8 101, .int .u8 115] 5 5 Try.underlying29 Try.underlying5
      have HPS : Hid (Calls Try.prog 9 #[.pointer (some ⟨db, 0, none⟩), (safeO wA.heap.size).v] (wA.alloc (.cells #[.int .u8 98, .int .u8 121, .int .u8 116, .int .u8 101, .int .u8 115] 5 (5, 6))) fun e w' => ∃ E : Int, e = .returned (.int .i64 E) ∧ ∃ F' p' n', DK w' w1.heap.size db p' n' 1000000 F' ∧ Below w1.heap.size w1 w' ∧ Calm p' ∧ 0 < (seenI p').length) := by
        have bq : Below wA.heap.size wA (wA.alloc (.cells #[.int .u8 98, .int .u8 121, .int .u8 116, .int .u8 101, .int .u8 115] 5 (5, 6))) := (Below.refl _ _).alloc (Nat.le_refl _) _
        have hbl : BL (wA.alloc (.cells #[.int .u8 98, .int .u8 121, .int .u8 116, .int .u8 101, .int .u8 115] 5 (5, 6))) (some ⟨wA.heap.size, 0, none⟩) [98, 121, 116, 101, 115] := lit_bl wA _ _ _ (fun j hj => by
          match j, hj with
          | 0, _ => rfl
          | 1, _ => rfl
          | 2, _ => rfl
          | 3, _ => rfl
          | 4, _ => rfl)
        refine (play_is (hD.on bq) (by omega) (safeO wA.heap.size) (by show 5 ≤ _; decide) ⟨hbl, fun e => by cases e⟩ (fun ad e _ => ?_)).mono fun e w' ⟨he, F', hD', hM⟩ => ⟨_, he, F', _, _, hD'.mono (by show 64 + 4098 * i + 5 + 2 ≤ 1000000; omega), ?_, step_calm hcalm (step_same p n _) hD'.inv, ?_⟩
        · have : ad.block = wA.heap.size := by
            have := Option.some.inj e
            rw [← this]
          rw [this]
          refine ⟨by simp, fun hf => ?_⟩
          have := (hD.lt _ hf).2
          omega
        · exact Mv.below (hb.trans (bq.mono hb.size)) (Nat.le_trans hb.size bq.size) (fun k hk => (hD.lt k hk).1) hM
        · have hI' := hD'.inv
          rw [step_app (o := safeO wA.heap.size) rfl] at hI' ⊢
          refine safe_some hD.inv hcalm hpf _ (show okN ⟨#[115, 97, 102, 101]⟩ = true by decide +kernel) _ ?_ hI'
          have := hD.inv.used
          show 5 + usedM p ≤ p.room
          rw [hro]
          omega
      unfold safeO OpV.v at HPS
      clear hD hcalm hpf hkept hro hb HOK HLN
      go_wp2_with fail
      refine HPS.out.mono ?_
      rintro e w4 ⟨E4, rfl, F4, p4, n4, hD4, hb4, hc4, hl4⟩
      clear HPS kc
      have HAS : Hid (Calls Try.prog 23 #[.pointer (some ⟨db, 0, none⟩)] w4 fun e w' => e = .returned (.bool true) ∧ ∃ F' q, DK w' w1.heap.size db q n4 1000130 F' ∧ Below w1.heap.size w1 w' ∧ Firm q ∧ Calm q ∧ 0 < (seenI q).length) := (allSafe_is hD4 (by omega) hc4).mono fun e w' ⟨he, F', q, hD', hM, hs⟩ => ⟨he, F', q, hD', Mv.below hb4 hb4.size (fun k hk => (hD4.lt k hk).1) hM, Firm.of_shut hs, hs.calm, by
        unfold seenI at hl4 ⊢
        rw [List.length_map] at hl4 ⊢
        rw [hs.seen]
        exact hl4⟩
      clear hD4 hb4 hc4 hl4
      go_wp2_with fail
      refine HAS.out.mono ?_
      rintro e w5 ⟨rfl, F5, p5, hD5, hb5, hf5, hc5, hl5⟩
      clear HAS
      have hlk : lookI p5 = seenI p5 := by unfold lookI; rw [if_neg (by rw [hc5.1]; simp)]
      have hm64 := (lookI_dt hD5.inv).1
      have hse := seen_cap hD5 (by omega)
      rw [hlk] at hse hm64
      have HSE : Hid (Calls Try.prog 11 #[.pointer (some ⟨db, 0, none⟩)] w5 fun e w' => ∃ a c, e = .returned (.slice a (seenI p5).length c) ∧ Lies w5.heap.size w'.heap.size w' (fun W => ImgC W a (seenI p5)) ∧ Below w5.heap.size w5 w') := hse
      have H5 : Hid (DK w5 w1.heap.size db p5 n4 1000130 F5 ∧ Below w1.heap.size w1 w5 ∧ Firm p5 ∧ Calm p5) := ⟨hD5, hb5, hf5, hc5⟩
      have HD5L : Hid (∀ j, j < (seenI p5).length → (dtI (seenI p5) j).length ≤ 1048576) := fun j hj => by
        have := (lookI_dt hD5.inv).2 j (by rw [hlk]; exact hj)
        rw [hlk] at this
        omega
      obtain ⟨M, HM⟩ : ∃ M, Hid ((seenI p5).length = M) := ⟨_, rfl⟩
      rw [HM.out] at HSE hl5 hm64
      clear hD5 hb5 hf5 hc5 hse hlk
      go_wp2_with fail
      refine HSE.out.mono ?_
      rintro e w6 ⟨sa, sc, rfl, hsee, hb6⟩
      clear HSE
      have HB6 : Hid (Below w1.heap.size w1 w6) := H5.out.2.1.trans (hb6.mono H5.out.2.1.size)
      obtain ⟨b0, b2, b3, b4⟩ := HBX.out w6 HB6.out
      clear b0 b2 b4
      have HFM : Hid (Calls Try.prog 10 #[.slice A.ma A.more.length A.mc] w6 fun e w' => ∃ va vc, e = .returned (.slice va (fewL A.more).length vc) ∧ Lies w6.heap.size w'.heap.size w' (fun W => OpsIn W va (fewL A.more)) ∧ Below w6.heap.size w6 w') := few_run A.ma A.mc A.more w6 (HP.out.more.on HB6.out) HP.out.mok
      have HSE6 : Hid (Lies w5.heap.size w6.heap.size w6 (fun W => ImgC W sa (seenI p5)) ∧ Below w5.heap.size w5 w6) := ⟨hsee, hb6⟩
      clear hsee hb6
      go_wp2_with fail
      refine HFM.out.mono ?_
      rintro e w7 ⟨vb, vd, rfl, hfm, hb7⟩
      clear HFM b3
      have hlen2 := few_len A.more
      have HOM : Hid (∀ (i : Nat) (o : OpV), (fewL A.more)[i]? = some o → o.ok w1 ∧ o.b.length ≤ 4096 ∧ ∀ ad, o.ba = some ad → 0 < o.b.length → ad.block < w1.heap.size) := fun i o ho => HP.out.mok.few (List.mem_of_getElem? ho)
      obtain ⟨LM, hLM⟩ : ∃ L, fewL A.more = L := ⟨_, rfl⟩
      rw [hLM] at hfm hlen2 HOM
      rw [hLM]
      obtain ⟨N2, hN2⟩ : ∃ N, LM.length = N := ⟨_, rfl⟩
      rw [hN2] at hlen2
      rw [hN2]
      have hA0 : AppS w1 db w6.heap.size w7.heap.size vb LM w5.heap.size w6.heap.size sa (seenI p5) p5 1000130 0 w7 := by
        obtain ⟨c1, c2, c3, c4⟩ := H5.out
        obtain ⟨s1, s2⟩ := HSE6.out
        have d6 := c1.on s2
        exact ⟨⟨F5, p5, n4, d6.on hb7, hfm, fun q hq => .inl (Nat.lt_of_lt_of_le (c1.lt q hq).2 s2.size), s1.on hb7, fun q hq => .inl (c1.lt q hq).2, c3.apps c1.inv c4⟩, HB6.out.trans (hb7.mono HB6.out.size)⟩
      have HLM : Hid (LM.length = N2) := hN2
      have H5I : Hid (Inv p5 n4 1000130 ∧ Firm p5) := ⟨H5.out.1.inv, H5.out.2.2.1⟩
      clear hfm hb7 hLM hN2 HSE6 HB6 H5 hlt hz hi0
      generalize w5.heap.size = slo at *
      generalize w6.heap.size = shi at *
      generalize w7.heap.size = hi2 at *
      go_wp2_with fail
      go_loopg [8] N2 (fun q s8 wx => ∃ (i : Nat), i ≤ N2 ∧ q = N2 - i ∧ s8 = .int .i64 i ∧ AppS w1 db shi hi2 vb LM slo shi sa (seenI p5) p5 1000130 i wx)
      case atStart => exact ⟨0, Nat.zero_le _, rfl, rfl, hA0⟩
      case round =>
        obtain ⟨i, hi0, rfl, rfl, hS⟩ := hrel
        clear hA0
        by_cases hlt : i < N2
        · have hz : (i : Int) < (N2 : Int) := by omega
          have hwi : IntKind.i64.wrap ((i : Int) + 1) = (i : Int) + 1 := by rw [IntKind.wrap_i64]; omega
          obtain ⟨o, ho⟩ : ∃ o, LM[i]? = some o := ⟨_, List.getElem?_eq_getElem (by have := HLM.out; omega)⟩
          obtain ⟨b, off, rfl, hc⟩ := (AppS.ops hS).now i o ho
          have q0 : wr.cell? ⟨b, off + i * 10, none⟩ = some (.int .i64 o.kind) := hc 0 _ rfl
          have q1 : wr.cell? ⟨b, off + i * 10 + 1, none⟩ = some (.int .i64 o.on) := hc 1 _ rfl
          have q2 : wr.cell? ⟨b, off + i * 10 + 2, none⟩ = some (.int .i64 o.n) := hc 2 _ rfl
          have q3 : wr.cell? ⟨b, off + i * 10 + 3, none⟩ = some (.string o.name) := hc 3 _ rfl
          have q4 : wr.cell? ⟨b, off + i * 10 + 4, none⟩ = some (.string o.tt) := hc 4 _ rfl
          have q5 : wr.cell? ⟨b, off + i * 10 + 5, none⟩ = some (.slice o.ba o.b.length o.bc) := hc 5 _ rfl
          have q6 : wr.cell? ⟨b, off + i * 10 + 6, none⟩ = some (.int .i64 o.p0) := hc 6 _ rfl
          have q7 : wr.cell? ⟨b, off + i * 10 + 7, none⟩ = some (.int .i64 o.p1) := hc 7 _ rfl
          have q8 : wr.cell? ⟨b, off + i * 10 + 8, none⟩ = some (.int .i64 o.p2) := hc 8 _ rfl
          have q9 : wr.cell? ⟨b, off + i * 10 + 9, none⟩ = some (.slice o.pa o.pn o.pc) := hc 9 _ rfl
          by_cases hk : o.kind = 1
          · have HPL : Hid (Calls Try.prog 9 #[.pointer (some ⟨db, 0, none⟩), .agg #[.int .i64 o.kind, .int .i64 o.on, .int .i64 o.n, .string o.name, .string o.tt, .slice o.ba o.b.length o.bc, .int .i64 o.p0, .int .i64 o.p1, .int .i64 o.p2, .slice o.pa o.pn o.pc]] wr fun e w' => ∃ E : Int, e = .returned (.int .i64 E) ∧ AppS w1 db shi hi2 (some ⟨b, off, none⟩) LM slo shi sa (seenI p5) p5 1000130 (i + 1) w') := by
              obtain ⟨o1, o2, o3⟩ := HOM.out i o ho
              exact hS.play (by omega) (by omega) hk o1 o2 o3
            rw [hk] at q0 HPL
            clear hS hc HOM ho HLM hk
            go_wp2_with fail
            refine HPL.out.mono ?_
            rintro e w8 ⟨E8, rfl, hS8⟩
            clear HPL q0 q1 q2 q3 q4 q5 q6 q7 q8 q9
            go_wp2_with fail
            go_roundg (N2 - (i + 1))
            case measure => go_light; omega
            case rel => go_light; exact ⟨i + 1, by omega, rfl, by simp, hS8⟩
          · have kb : (o.kind == 1) = false := beq_eq_false_iff_ne.2 hk
            have hS8 := hS.skip
            clear hS hc HOM ho HLM hk q1 q2 q3 q4 q5 q6 q7 q8 q9
            go_wp2_with fail
            go_roundg (N2 - (i + 1))
            case measure => go_light; omega
            case rel => go_light; exact ⟨i + 1, by omega, rfl, by simp, hS8⟩
        · obtain rfl : i = N2 := by omega
          obtain ⟨wB, hwB⟩ : ∃ x, x = wr := ⟨_, rfl⟩
          subst hwB
          have hz : ¬ ((i : Int) < (i : Int)) := by omega
          obtain ⟨⟨F, q, n, hD, _, _, hwas, hsps, hA⟩, hb⟩ := hS
          have hlk : lookI q = seenI q := by unfold lookI; rw [if_neg (by rw [hA.calm.1]; simp)]
          have hk64 := (lookI_dt hD.inv).1
          have hse := seen_cap hD (by omega)
          rw [hlk] at hse hk64
          have HSE : Hid (Calls Try.prog 11 #[.pointer (some ⟨db, 0, none⟩)] wB fun e w' => ∃ a c, e = .returned (.slice a (seenI q).length c) ∧ Lies wB.heap.size w'.heap.size w' (fun W => ImgC W a (seenI q)) ∧ Below wB.heap.size wB w') := hse
          have HQ : Hid (DK wB w1.heap.size db q n (1000130 + 4098 * i) F ∧ Below w1.heap.size w1 wB ∧ Apps p5 q ∧ ImgC wB sa (seenI p5)) := ⟨hD, hb, hA, hwas.now⟩
          have HQD : Hid (∀ j, j < (seenI q).length → (dtI (seenI q) j).length ≤ 4194304) := fun j hj => by
            have := (lookI_dt hD.inv).2 j (by rw [hlk]; exact hj)
            rw [hlk] at this
            omega
          have hn64 : (seenI q).length ≤ 64 := hk64
          obtain ⟨K, HK⟩ : ∃ K, Hid ((seenI q).length = K) := ⟨_, rfl⟩
          rw [HK.out] at HSE hk64 hn64
          clear hD hb hA hwas hsps hse hlk HOM HLM hlt
          go_wp2_with fail
          refine HSE.out.mono ?_
          rintro e w8 ⟨na, nc, rfl, hnow, hb8⟩
          clear HSE
          have HB8 : Hid (Below w1.heap.size w1 w8) := HQ.out.2.1.trans (hb8.mono HQ.out.2.1.size)
          obtain ⟨b0, b2, b3, b4⟩ := HBX.out w8 HB8.out
          clear b0 b3 b4
          have HCR : Hid (Calls Try.prog 12 #[.pointer (some ⟨db, 0, none⟩), .slice A.pa A.ps.length A.pc] w8 fun e w' => ∃ g, e = .returned (.slice (some ⟨g, 0, none⟩) (crashI q A.ps).length (crashI q A.ps).length) ∧ Lies w8.heap.size w'.heap.size w' (fun W => ImgC W (some ⟨g, 0, none⟩) (crashI q A.ps)) ∧ Below w8.heap.size w8 w') := (HQ.out.1.on hb8).crashC (by omega) A.ps A.pa A.pc (HP.out.ps.on HB8.out)
          have hC64 := (crashI_len HQ.out.1.inv A.ps).2
          have HCD : Hid (∀ j, j < (crashI q A.ps).length → (dtI (crashI q A.ps) j).length ≤ 4194304) := fun j hj => by have := crashI_dt HQ.out.1.inv A.ps j hj; omega
          obtain ⟨C, HC⟩ : ∃ C, Hid ((crashI q A.ps).length = C) := ⟨_, rfl⟩
          rw [HC.out] at HCR hC64
          have HNW8 : Hid (ImgC w8 na (seenI q) ∧ Below wB.heap.size wB w8) := ⟨hnow.now, hb8⟩
          clear hnow hb8
          go_wp2_with fail
          refine HCR.out.mono ?_
          rintro e w9 ⟨g, rfl, hcr, hb9⟩
          clear HCR b2
          have HD9 : Hid (DK w9 w1.heap.size db q n (1000130 + 4098 * i) F) := (HQ.out.1.on HNW8.out.2).on hb9
          have HW9 : Hid (ImgC w9 sa (seenI p5)) := (HQ.out.2.2.2.on HNW8.out.2).on hb9
          have HN9 : Hid (ImgC w9 na (seenI q)) := HNW8.out.1.on hb9
          have HC9 : Hid (ImgC w9 (some ⟨g, 0, none⟩) (crashI q A.ps)) := hcr.now
          have HB9 : Hid (Below w1.heap.size w1 w9) := HB8.out.trans (hb9.mono HB8.out.size)
          have HL3 : Hid (∀ W j, Below w9.heap.size w9 W → j < M → ∃ b o nm da dn dc, sa = some ⟨b, o, none⟩ ∧ W.cell? ⟨b, o + j * 2, none⟩ = some (.string nm) ∧ W.cell? ⟨b, o + j * 2 + 1, none⟩ = some (.slice da dn dc) ∧ Calls Try.prog 20 #[.slice (some ⟨g, 0, none⟩) C C, .string nm] W fun e w' => ∃ fa fn fc, e = .returned (.tuple #[.slice fa fn fc, .bool true]) ∧ w' = W ∧ Calls Try.prog 24 #[.slice fa fn fc, .slice da dn dc] W fun e w' => e = .returned (.bool true) ∧ Below w9.heap.size w9 w') := fun W j hb hj => by
            obtain ⟨b, o, e, h1, da, dc, h2, h3, _⟩ := (HW9.out.on hb) j (by rw [HM.out]; exact hj)
            obtain ⟨l, l1, l2⟩ := HQ.out.2.2.1.was HQ.out.1.inv H5I.out.1 H5I.out.2 A.ps (i := j) (by rw [HM.out]; exact hj)
            have hf := find_someC (c := C) (HC9.out.on hb) (by rw [HC.out]; omega) l1
            rw [HC.out] at hf
            obtain ⟨j', k1, k2⟩ := idx_dt l1
            have hll := HCD.out j' k1
            rw [k2] at hll
            exact ⟨b, o, _, da, _, dc, e, h1, h2, hf.mono fun e w' ⟨⟨fa, fc, he, hbl, hle⟩, hw⟩ => ⟨fa, _, fc, he, hw, (begins_is fa da fc dc hbl h3 l2 hle hll).mono fun e w' ⟨he, m, hm⟩ => ⟨he, by rw [hm]; exact below_drewN hb m⟩⟩⟩
          have HL4 : Hid (∀ W j, Below w9.heap.size w9 W → j < C → ∃ nm da dn dc, W.cell? ⟨g, j * 2, none⟩ = some (.string nm) ∧ W.cell? ⟨g, j * 2 + 1, none⟩ = some (.slice da dn dc) ∧ Calls Try.prog 20 #[.slice na K nc, .string nm] W fun e w' => ∃ fa fn fc, e = .returned (.tuple #[.slice fa fn fc, .bool true]) ∧ w' = W ∧ Calls Try.prog 24 #[.slice fa fn fc, .slice da dn dc] W fun e w' => e = .returned (.bool true) ∧ Below w9.heap.size w9 w') := fun W j hb hj => by
            obtain ⟨b, o, e, h1, da, dc, h2, h3, _⟩ := (HC9.out.on hb) j (by rw [HC.out]; exact hj)
            cases e
            rw [Nat.zero_add] at h1 h2
            obtain ⟨l, l1, l2⟩ := HQ.out.2.2.1.now HQ.out.1.inv A.ps (i := j) (by rw [HC.out]; exact hj)
            have hf := find_someC (c := nc) (HN9.out.on hb) (by rw [HK.out]; omega) l1
            rw [HK.out] at hf
            obtain ⟨j', k1, k2⟩ := idx_dt l1
            have hll := HQD.out j' k1
            rw [k2] at hll
            exact ⟨_, da, _, dc, h1, h2, hf.mono fun e w' ⟨⟨fa, fc, he, hbl, hle⟩, hw⟩ => ⟨fa, _, fc, he, hw, (begins_is fa da fc dc hbl h3 l2 hle hll).mono fun e w' ⟨he, m, hm⟩ => ⟨he, by rw [hm]; exact below_drewN hb m⟩⟩⟩
          have hr9 : Below w9.heap.size w9 w9 := Below.refl _ _
          have hM0 : (0 : Int) < (M : Int) := by omega
          have HX1 : Hid (∀ W, Below w9.heap.size w9 W → Calls Try.prog 12 #[.pointer (some ⟨db, 0, none⟩), .slice none 0 0] W fun e w' => ∃ a c, e = .returned (.slice a M c) ∧ ImgI w' a (seenI p5) ∧ Below w9.heap.size w9 w' ∧ Below W.heap.size W w') := fun W hb => by
            have := (HD9.out.on hb).crash (by omega) [] none 0 (fun j hj => absurd hj (Nat.not_lt_zero _))
            rw [HQ.out.2.2.1.none H5I.out.1 H5I.out.2, HM.out] at this
            exact this.mono fun e w' ⟨g, he, hl, hb'⟩ => ⟨_, _, he, hl.now, hb.trans (hb'.mono hb.size), hb'⟩
          have HX2 : Hid (∀ W a c, ImgI W a (seenI p5) → Below w9.heap.size w9 W → Calls Try.prog 16 #[.slice a M c, .slice sa M sc] W fun e w' => e = .returned (.bool true) ∧ Below w9.heap.size w9 w' ∧ Below W.heap.size W w') := fun W a c h1 hb => by
            have := image_isW c sc h1 (HW9.out.on hb).img (by rw [HM.out]; omega) (fun j hj => by have := HD5L.out j hj; omega)
            rw [HM.out] at this
            exact this.mono fun e w' ⟨he, m, hm⟩ => ⟨he, by rw [hm]; exact below_drewN hb m, by rw [hm]; exact below_drewN (Below.refl _ _) m⟩
          have HX3 : Hid (∀ W gb K1, K1 = K + 1 → Below w9.heap.size w9 W → (∀ x, x < K1 → W.cell? ⟨gb, x, none⟩ = some (.int .i64 (-1))) → Calls Try.prog 12 #[.pointer (some ⟨db, 0, none⟩), .slice (some ⟨gb, 0, none⟩) K1 K1] W fun e w' => ∃ a c, e = .returned (.slice a K c) ∧ ImgI w' a (seenI q) ∧ Below w9.heap.size w9 w' ∧ Below W.heap.size W w') := fun W gb K1 hK hb hx => by
            have hp : PicksL W (some ⟨gb, 0, none⟩) (List.replicate K1 (-1)) := fun j hj => by
              rw [List.length_replicate] at hj
              refine ⟨gb, 0, rfl, ?_⟩
              rw [Nat.zero_add, hx j hj]
              simp [List.getD, hj]
            have := (HD9.out.on hb).crash (by omega) _ _ K1 hp
            rw [List.length_replicate, HQ.out.2.2.1.full HQ.out.1.inv (ps := List.replicate K1 (-1)) (fun x hx => by rw [HK.out] at hx; rw [List.getElem?_replicate, if_pos (by omega)]), HK.out] at this
            exact this.mono fun e w' ⟨g, he, hl, hb'⟩ => ⟨_, _, he, hl.now, hb.trans (hb'.mono hb.size), hb'⟩
          have HX4 : Hid (∀ W a c, ImgI W a (seenI q) → Below w9.heap.size w9 W → Calls Try.prog 16 #[.slice a K c, .slice na K nc] W fun e w' => e = .returned (.bool true) ∧ Below w9.heap.size w9 w' ∧ Below W.heap.size W w') := fun W a c h1 hb => by
            have := image_isW c nc h1 (HN9.out.on hb).img (by rw [HK.out]; omega) HQD.out
            rw [HK.out] at this
            exact this.mono fun e w' ⟨he, m, hm⟩ => ⟨he, by rw [hm]; exact below_drewN hb m, by rw [hm]; exact below_drewN (Below.refl _ _) m⟩
          have HX5 : Hid (∀ W, Below w9.heap.size w9 W → Calls Try.prog 11 #[.pointer (some ⟨db, 0, none⟩)] W fun e w' => ∃ a c, e = .returned (.slice a K c) ∧ ImgI w' a (seenI q) ∧ Below w9.heap.size w9 w' ∧ Below W.heap.size W w') := fun W hb => by
            have := seen_is (HD9.out.on hb) (by omega)
            rw [show lookI q = seenI q by unfold lookI; rw [if_neg (by rw [HQ.out.2.2.1.calm.1]; simp)], HK.out] at this
            exact this.mono fun e w' ⟨a, c, he, hl, hb'⟩ => ⟨_, _, he, hl.now, hb.trans (hb'.mono hb.size), hb'⟩
          have HEN : Hid (∀ W, Below w9.heap.size w9 W → Below w.heap.size w W) := fun W hb => HEND.out W (HB9.out.trans (hb.mono HB9.out.size))
          clear hcr hb9 HNW8 HB8 HD9 HW9 HN9 HC9 HB9 HQ HQD HCD HK HC HM H5I HD5L HP HBX HEND hi0
          go_wp2_with fail
          go_loopg [11] M (fun q sx wx => ∃ (j : Nat), j ≤ M ∧ q = M - j ∧ sx = .int .i64 j ∧ Below w9.heap.size w9 wx)
          case atStart => exact ⟨0, Nat.zero_le _, rfl, rfl, hr9⟩
          case round =>
            obtain ⟨j, hj, rfl, rfl, hbj⟩ := hrel
            by_cases hjl : j < M
            · have hjz : (j : Int) < (M : Int) := by omega
              have hwj : IntKind.i64.wrap ((j : Int) + 1) = (j : Int) + 1 := by rw [IntKind.wrap_i64]; omega
              obtain ⟨b, o, nm, da, dn, dc, rfl, x1, x2, hcf⟩ := HL3.out wr j hbj hjl
              have HF : Hid (Calls Try.prog 20 #[.slice (some ⟨g, 0, none⟩) C C, .string nm] wr fun e w' => ∃ fa fn fc, e = .returned (.tuple #[.slice fa fn fc, .bool true]) ∧ w' = wr ∧ Calls Try.prog 24 #[.slice fa fn fc, .slice da dn dc] wr fun e w' => e = .returned (.bool true) ∧ Below w9.heap.size w9 w') := hcf
              clear hcf hbj
              go_wp2_with fail
              refine HF.out.mono ?_
              rintro e wr2 ⟨fa, fn, fc, rfl, hwr, hbg⟩
              subst hwr
              have HG : Hid (Calls Try.prog 24 #[.slice fa fn fc, .slice da dn dc] wr2 fun e w' => e = .returned (.bool true) ∧ Below w9.heap.size w9 w') := hbg
              clear hbg HF
              go_wp2_with fail
              refine HG.out.mono ?_
              rintro e wr3 ⟨rfl, hb3⟩
              clear HG x1 x2
              go_wp2_with fail
              go_roundg (M - (j + 1))
              case measure => go_light; omega
              case rel => go_light; exact ⟨j + 1, by omega, rfl, by simp, hb3⟩
            · obtain rfl : j = M := by omega
              have hjz : ¬ ((j : Int) < (j : Int)) := by omega
              clear HL3
              go_wp2_with fail
              go_loopg [14] C (fun q sx wx => ∃ (j : Nat), j ≤ C ∧ q = C - j ∧ sx = .int .i64 j ∧ Below w9.heap.size w9 wx)
              case atStart => exact ⟨0, Nat.zero_le _, rfl, rfl, hbj⟩
              case round =>
                obtain ⟨j, hj, rfl, rfl, hbj⟩ := hrel
                by_cases hjl : j < C
                · have hjz : (j : Int) < (C : Int) := by omega
                  have hwj : IntKind.i64.wrap ((j : Int) + 1) = (j : Int) + 1 := by rw [IntKind.wrap_i64]; omega
                  obtain ⟨nm, da, dn, dc, x1, x2, hcf⟩ := HL4.out wr j hbj hjl
                  have HF : Hid (Calls Try.prog 20 #[.slice na K nc, .string nm] wr fun e w' => ∃ fa fn fc, e = .returned (.tuple #[.slice fa fn fc, .bool true]) ∧ w' = wr ∧ Calls Try.prog 24 #[.slice fa fn fc, .slice da dn dc] wr fun e w' => e = .returned (.bool true) ∧ Below w9.heap.size w9 w') := hcf
                  clear hcf hbj
                  go_wp2_with fail
                  refine HF.out.mono ?_
                  rintro e wr2 ⟨fa, fn, fc, rfl, hwr, hbg⟩
                  subst hwr
                  have HG : Hid (Calls Try.prog 24 #[.slice fa fn fc, .slice da dn dc] wr2 fun e w' => e = .returned (.bool true) ∧ Below w9.heap.size w9 w') := hbg
                  clear hbg HF
                  go_wp2_with fail
                  refine HG.out.mono ?_
                  rintro e wr3 ⟨rfl, hb3⟩
                  clear HG x1 x2
                  go_wp2_with fail
                  go_roundg (C - (j + 1))
                  case measure => go_light; omega
                  case rel => go_light; exact ⟨j + 1, by omega, rfl, by simp, hb3⟩
                · obtain rfl : j = C := by omega
                  have hjz : ¬ ((j : Int) < (j : Int)) := by omega
                  clear HL4
                  obtain ⟨K1, hK1, HK1⟩ : ∃ K1 : Nat, (K : Int) + 1 = (K1 : Int) ∧ Hid (K1 = K + 1) := ⟨K + 1, by omega, rfl⟩
                  have hk65 : K1 ≤ 65 := by have := HK1.out; omega
                  have hwK : IntKind.i64.wrap (K1 : Int) = (K1 : Int) := by rw [IntKind.wrap_i64]; omega
                  have hmk := run_make_row' (P := Try.prog) 23 3 (.int .i64 0) 8 Try.underlying23 intInfoS rfl .i64 .i64 K1 (by omega) (by omega) wr
                  have bq : Below w9.heap.size w9 (wr.alloc (.cells (madeCells #[.int .i64 0] K1) 3)) := hbj.alloc hbj.size _
                  have rq := World.rowIs_made wr (.int .i64 0) K1 3
                  obtain ⟨W1, hW1⟩ : ∃ W, wr.alloc (.cells (madeCells #[.int .i64 0] K1) 3) = W := ⟨_, rfl⟩
                  rw [hW1] at hmk bq rq
                  have HGB : Hid (w9.heap.size ≤ wr.heap.size) := hbj.size
                  clear hW1 hbj
                  go_upto_region 34 with fail
                  generalize wr.heap.size = gb at *
                  clear hmk
                  go_wp2_with fail
                  go_loopg [18] K1 (fun q sx wx => ∃ (x : Nat) (f : Nat → Value), x ≤ K1 ∧ q = K1 - x ∧ sx = .int .i64 x ∧ wx.rowIs gb 3 K1 f ∧ (∀ y, y < x → f y = .int .i64 (-1)) ∧ Below w9.heap.size w9 wx)
                  case atStart => exact ⟨0, _, Nat.zero_le _, rfl, rfl, rq, fun y hy => absurd hy (Nat.not_lt_zero _), bq⟩
                  case round =>
                    obtain ⟨x, f, hx, rfl, rfl, hr, hfy, hbx⟩ := hrel
                    clear rq bq
                    by_cases hxl : x < K1
                    · have hxz : (x : Int) < (K1 : Int) := by omega
                      have hwx : IntKind.i64.wrap ((x : Int) + 1) = (x : Int) + 1 := by rw [IntKind.wrap_i64]; omega
                      have c0 := hr.cell (i := x) hxl
                      have z0 := hr.frozen x
                      have HN : Hid (∃ f', (wr.setCell ⟨gb, x, none⟩ (.int .i64 (-1))).rowIs gb 3 K1 f' ∧ (∀ y, y < x + 1 → f' y = .int .i64 (-1)) ∧ Below w9.heap.size w9 (wr.setCell ⟨gb, x, none⟩ (.int .i64 (-1)))) := by
                        refine ⟨_, hr.set x (.int .i64 (-1)), fun y hy => ?_, hbx.setCell HGB.out _⟩
                        by_cases e : y = x
                        · simp [e]
                        · simp [e, hfy y (by omega)]
                      clear hr hfy hbx
                      go_wp2_with fail
                      obtain ⟨f', n1, n2, n3⟩ := HN.out
                      go_roundg (K1 - (x + 1))
                      case measure => go_light; omega
                      case rel => go_light; exact ⟨x + 1, f', by omega, rfl, by simp, n1, n2, n3⟩
                    · obtain rfl : x = K1 := by omega
                      have hxz : ¬ ((x : Int) < (x : Int)) := by omega
                      have HC3 : Hid (∀ W, Below wr.heap.size wr W → ∀ y, y < x → W.cell? ⟨gb, y, none⟩ = some (.int .i64 (-1))) := fun W hb y hy => cel_on hb (by rw [hr.cell hy, hfy y hy])
                      have HBX5 : Hid (Below w9.heap.size w9 wr) := hbx
                      clear hr hfy hbx
                      go_wp2_with fail
                      refine (HX1.out wr HBX5.out).mono ?_
                      rintro e w10 ⟨a1, c1, rfl, hi1, hn1, hw1⟩
                      have HI1 : Hid (ImgI w10 a1 (seenI p5) ∧ Below w9.heap.size w9 w10 ∧ Below wr.heap.size wr w10) := ⟨hi1, hn1, hw1⟩
                      clear hi1 hn1 hw1
                      go_wp2_with fail
                      refine (HX2.out w10 _ _ HI1.out.1 HI1.out.2.1).mono ?_
                      rintro e w11 ⟨rfl, hn2, hw2⟩
                      have HI2 : Hid (Below w9.heap.size w9 w11 ∧ Below wr.heap.size wr w11) := ⟨hn2, HI1.out.2.2.trans (hw2.mono HI1.out.2.2.size)⟩
                      clear hn2 hw2
                      go_wp2_with fail
                      refine (HX3.out w11 gb _ HK1.out HI2.out.1 (HC3.out w11 HI2.out.2)).mono ?_
                      rintro e w12 ⟨a3, c3, rfl, hi3, hn3, _⟩
                      have HI3 : Hid (ImgI w12 a3 (seenI q) ∧ Below w9.heap.size w9 w12) := ⟨hi3, hn3⟩
                      clear hi3 hn3
                      go_wp2_with fail
                      refine (HX4.out w12 _ _ HI3.out.1 HI3.out.2).mono ?_
                      rintro e w13 ⟨rfl, hn4, _⟩
                      have HI4 : Hid (Below w9.heap.size w9 w13) := hn4
                      clear hn4
                      go_wp2_with fail
                      refine (HX5.out w13 HI4.out).mono ?_
                      rintro e w14 ⟨a5, c5, rfl, hi5, hn5, _⟩
                      have HI5 : Hid (ImgI w14 a5 (seenI q) ∧ Below w9.heap.size w9 w14) := ⟨hi5, hn5⟩
                      clear hi5 hn5
                      go_wp2_with fail
                      refine (HX4.out w14 _ _ HI5.out.1 HI5.out.2).mono ?_
                      rintro e w15 ⟨rfl, hn6, _⟩
                      have HI6 : Hid (Below w9.heap.size w9 w15) := hn6
                      clear hn6
                      go_wp2_with fail
                      go_ret
                      exact ⟨rfl, HEN.out _ HI6.out⟩
end Go.Proofs.Ytbnlgohaaadgeaa
