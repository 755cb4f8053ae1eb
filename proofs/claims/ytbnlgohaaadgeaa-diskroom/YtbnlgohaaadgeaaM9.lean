/- Own texts, joined: R3. -/
import Derived.Test.YtbnlgohaaadgeaaM8

/- DiskRoom. -/
namespace Go.Proofs.Ytbnlgohaaadgeaa
open Go.RowKit Go.Maps Go.Sort Go.Joins
set_option maxRecDepth 100000
set_option maxRecDepth 100000

/-- The disk while the law plays. -/
structure RoomS (w1 : World) (db lo hi : Nat) (va : Option Addr) (L : List OpV) (k i : Nat) (W : World) : Prop where
  mem : ∃ F p n, DK W w1.heap.size db p n (64 + 4098 * i) F ∧ Lies lo hi W (fun W => OpsIn W va L) ∧ Spare lo hi F ∧ Calm p ∧ p.pf = 0 ∧ Kept p ∧ p.room = k
  below : Below w1.heap.size w1 W
set_option maxHeartbeats 100000000 in
theorem room_any_law (room : Int) (oa : Option Addr) (oc : Nat) (ops : List OpV) (w : World) (h : OpsIn w oa ops) (hok : OpsOk w w.heap.size ops) :
    Calls Try.prog 4 #[.agg #[.int .i64 room, .slice oa ops.length oc]] w fun e w' => e = .returned (.bool true) ∧ Below w.heap.size w w' := by
  have HNUM : Hid (∀ (e : Int) W, Calls Try.prog 15 #[.int .i64 e] W fun r w' => r = .returned (.int .i64 e) ∧ w' = W) := num_is
  have bA : Below w.heap.size w (w.alloc (.cells #[.int .i64 room, .slice oa ops.length oc] 46)) := (Below.refl _ _).alloc (Nat.le_refl _) _
  have y0 : (w.alloc (.cells #[.int .i64 room, .slice oa ops.length oc] 46)).cell? ⟨w.heap.size, 0, none⟩ = some (.int .i64 room) := World.cell?_alloc_at (w := w) _ _ _ 0 rfl
  have y1 : (w.alloc (.cells #[.int .i64 room, .slice oa ops.length oc] 46)).cell? ⟨w.heap.size, 1, none⟩ = some (.slice oa ops.length oc) := World.cell?_alloc_at (w := w) _ _ _ 1 rfl
  have h1 := h.on bA
  have hok1 := hok.on bA
  obtain ⟨w1, HW⟩ : ∃ W, Hid (w.alloc (.cells #[.int .i64 room, .slice oa ops.length oc] 46) = W) := ⟨_, rfl⟩
  rw [HW.out] at bA y0 y1 h1 hok1
  have HOI : Hid (OpsIn w1 oa ops) := h1
  have HOK1 : Hid (OpsOk w1 w1.heap.size ops) := hok1.up bA.size
  have HEND : Hid (∀ W, Below w1.heap.size w1 W → Below w.heap.size w W) := fun W hb => bA.trans (hb.mono bA.size)
  have HY1 : Hid (∀ W, Below w1.heap.size w1 W → W.cell? ⟨w.heap.size, 1, none⟩ = some (.slice oa ops.length oc)) := fun W hb => cel_on hb y1
  clear h hok h1 hok1 bA y1
  go_enter Try.func4, Try.ntmps4
  go_upto_region 1 with fail
  rw [HW.out]
  have HWI : Hid (Calls Try.prog 17 #[.int .i64 room, .int .i64 400] w1 fun r w' => ∃ k : Nat, k < 400 ∧ r = .returned (.int .i64 (k : Nat)) ∧ w' = w1) := within_is room 400 (by decide) (by decide) w1
  go_wp2_with fail
  refine HWI.out.mono ?_
  rintro e w1' ⟨k, hk, rfl, hw1⟩
  subst hw1
  clear HWI y0
  have HNW : Hid (Calls Try.prog 18 #[.int .i64 (k : Nat)] w1' fun e w' => ∃ db F, e = .returned (.tuple #[.pointer (some ⟨db, 0, none⟩), .int .i64 0]) ∧ DK w' w1'.heap.size db (emptyP k) 0 64 F ∧ Below w1'.heap.size w1' w') := new_is k w1' (by omega)
  go_wp2_with fail
  refine HNW.out.mono ?_
  rintro e w2 ⟨db, F, rfl, hD2, hb2⟩
  have HRM : Hid (Calls Try.prog 19 #[.pointer (some ⟨db, 0, none⟩)] w2 fun e w' => e = .returned (.int .i64 (k : Nat)) ∧ w' = w2) := hD2.room
  have HD2 : Hid (DK w2 w1'.heap.size db (emptyP k) 0 64 F) := hD2
  have HB2 : Hid (Below w1'.heap.size w1' w2) := hb2
  clear HNW hD2 hb2
  go_wp2_with (go_at_call 15; refine (HNUM.out _ _).mono ?_; rintro e w2 ⟨rfl, rfl⟩)
  refine HRM.out.mono ?_
  rintro e w2 ⟨rfl, rfl⟩
  have y1 := HY1.out w2 HB2.out
  have HFW : Hid (Calls Try.prog 10 #[.slice oa ops.length oc] w2 fun e w' => ∃ va vc, e = .returned (.slice va (fewL ops).length vc) ∧ Lies w2.heap.size w'.heap.size w' (fun W => OpsIn W va (fewL ops)) ∧ Below w2.heap.size w2 w') := few_run oa oc ops w2 (HOI.out.on HB2.out) HOK1.out
  clear HRM
  go_wp2_with fail
  refine HFW.out.mono ?_
  rintro e w3 ⟨va, vc, rfl, hfl, hb3⟩
  clear HFW y1 HY1 HOI
  have hlen := few_len ops
  have HOK : Hid (∀ (i : Nat) (o : OpV), (fewL ops)[i]? = some o → (1 ≤ o.kind ∧ o.kind ≤ 6) ∧ o.ok w1' ∧ o.b.length ≤ 4096 ∧ ∀ ad, o.ba = some ad → 0 < o.b.length → ad.block < w1'.heap.size) := fun i o ho => by
    have hm := List.mem_of_getElem? ho
    have hq := few_kind hm
    unfold fewO at hq
    simp only [Bool.and_eq_true, decide_eq_true_eq] at hq
    exact ⟨hq, HOK1.out.few hm⟩
  obtain ⟨L, hLE⟩ : ∃ L, fewL ops = L := ⟨_, rfl⟩
  rw [hLE] at hfl hlen HOK
  rw [hLE]
  obtain ⟨N, hN⟩ : ∃ N, L.length = N := ⟨_, rfl⟩
  rw [hN] at hlen
  rw [hN]
  have hS0 : RoomS w1' db w2.heap.size w3.heap.size va L k 0 w3 := ⟨⟨F, emptyP k, 0, HD2.out.on hb3, hfl, fun q hq => .inl (HD2.out.lt q hq).2, ⟨rfl, rfl, Nat.le_refl _⟩, rfl, ⟨List.Pairwise.nil, Nat.zero_le _⟩, rfl⟩, HB2.out.trans (hb3.mono HB2.out.size)⟩
  have HLN : Hid (L.length = N) := hN
  clear hLE hN hfl hb3 HD2 HB2 HOK1
  generalize w2.heap.size = lo at *
  generalize w3.heap.size = hi at *
  go_wp2_with fail
  go_loopg [7] N (fun q s7 wx => ∃ (i : Nat), i ≤ N ∧ q = N - i ∧ s7 = .int .i64 i ∧ RoomS w1' db lo hi va L k i wx)
  case atStart => exact ⟨0, Nat.zero_le _, rfl, rfl, hS0⟩
  case round =>
    obtain ⟨i, hi0, rfl, rfl, hS⟩ := hrel
    clear hS0
    by_cases hlt : i < N
    · have hz : (i : Int) < (N : Int) := by omega
      have hwi : IntKind.i64.wrap ((i : Int) + 1) = (i : Int) + 1 := by rw [IntKind.wrap_i64]; omega
      obtain ⟨wA, hwA⟩ : ∃ x, x = wr := ⟨_, rfl⟩
      subst hwA
      obtain ⟨⟨F, p, n, hD, hL, hSp, hcalm, hpf, hkept, hro⟩, hb⟩ := hS
      obtain ⟨o, ho⟩ : ∃ o, L[i]? = some o := ⟨_, List.getElem?_eq_getElem (by have := HLN.out; omega)⟩
      have hlook : lookI p = seenI p := by unfold lookI; rw [if_neg (by rw [hcalm.1]; simp)]
      have HSE : Hid (Calls Try.prog 11 #[.pointer (some ⟨db, 0, none⟩)] wA fun e w' => ∃ a c, e = .returned (.slice a (seenI p).length c) ∧ Lies wA.heap.size w'.heap.size w' (fun W => ImgI W a (seenI p)) ∧ Below wA.heap.size wA w') := by
        have := seen_is hD (by omega)
        rw [hlook] at this
        exact this
      have hsum := used_img hD.inv
      obtain ⟨hll, hld⟩ := lookI_dt hD.inv
      rw [hlook] at hll hld
      have HUS : Hid (sumL (fun k => (dtI (seenI p) k).length) (seenI p).length = usedM p ∧ usedM p ≤ k) := ⟨hsum, by have := hkept.used; rw [hro] at this; exact this⟩
      have HLD : Hid (∀ j, j < (seenI p).length → (dtI (seenI p) j).length ≤ 1048576) := fun j hj => by have := hld j hj; omega
      have HALL : Hid (DK wA w1'.heap.size db p n (64 + 4098 * i) F ∧ Lies lo hi wA (fun W => OpsIn W va L) ∧ Spare lo hi F ∧ Calm p ∧ p.pf = 0 ∧ Kept p ∧ p.room = k ∧ Below w1'.heap.size w1' wA) := ⟨hD, hL, hSp, hcalm, hpf, hkept, hro, hb⟩
      clear hD hL hSp hcalm hpf hkept hro hb hsum hld hlook
      go_wp2_with fail
      refine HSE.out.mono ?_
      rintro e w2 ⟨sa, sc, rfl, hsee, hb2⟩
      clear HSE
      obtain ⟨M, HM⟩ : ∃ M, Hid ((seenI p).length = M) := ⟨_, rfl⟩
      rw [HM.out]
      rw [HM.out] at hll
      have HSI : Hid (ImgI w2 sa (seenI p)) := hsee.now
      have HPRE : Hid (∀ j, j ≤ M → sumL (fun k => (dtI (seenI p) k).length) j ≤ k) := fun j hj => by
        have q1 := sumL_mono (fun k => (dtI (seenI p) k).length) (i := j) (n := (seenI p).length) (by rw [HM.out]; exact hj)
        have q2 := HUS.out
        omega
      have HSEE : Hid (Lies wA.heap.size w2.heap.size w2 (fun W => ImgI W sa (seenI p))) := hsee
      have HBB2 : Hid (Below wA.heap.size wA w2) := hb2
      clear hsee hb2
      go_wp2_with fail
      go_loopg [9, 10] M (fun q s9 s10 wx => ∃ (j : Nat), j ≤ M ∧ q = M - j ∧ s10 = .int .i64 j ∧ s9 = .int .i64 (sumL (fun k => (dtI (seenI p) k).length) j : Nat) ∧ w2 = wx)
      case atStart => exact ⟨0, Nat.zero_le _, rfl, rfl, rfl, rfl⟩
      case round =>
        obtain ⟨j, hj, rfl, rfl, rfl, rfl⟩ := hrel
        by_cases hlt2 : j < M
        · have hz2 : (j : Int) < (M : Int) := by omega
          have hwj : IntKind.i64.wrap ((j : Int) + 1) = (j : Int) + 1 := by rw [IntKind.wrap_i64]; omega
          obtain ⟨b, o', rfl, h1, da, dc, h2, h3⟩ := HSI.out.at (i := j) (by rw [HM.out]; exact hlt2)
          obtain ⟨S1, hS1, HS1⟩ : ∃ S1 : Nat, ((sumL (fun k => (dtI (seenI p) k).length) j : Nat) : Int) + ((dtI (seenI p) j).length : Int) = (S1 : Int) ∧ Hid (S1 = sumL (fun k => (dtI (seenI p) k).length) (j + 1)) := ⟨_, rfl, by
            show _ = sumL (fun k => (dtI (seenI p) k).length) j + (dtI (seenI p) j).length
            omega⟩
          have hwS : IntKind.i64.wrap (S1 : Int) = (S1 : Int) := by
            have := HPRE.out (j + 1) (by omega)
            have := HS1.out
            rw [IntKind.wrap_i64]; omega
          clear h1 h3
          generalize sumL (fun k => (dtI (seenI p) k).length) j = S0 at *
          generalize (dtI (seenI p) j).length = dl at *
          go_wp2_with fail
          go_roundg (M - (j + 1))
          case measure => go_light; omega
          case rel => go_light; exact ⟨j + 1, by omega, rfl, by simp, by rw [← HS1.out], rfl⟩
        · obtain rfl : j = M := by omega
          have hz2 : ¬ ((j : Int) < (j : Int)) := by omega
          obtain ⟨a1, a2, a3, a4, a5, a6, a7, a8⟩ := HALL.out
          have hu := HUS.out
          rw [HM.out] at hu
          generalize sumL (fun k => (dtI (seenI p) k).length) j = U at hu ⊢
          have nU : ¬ ((k : Int) < (U : Int)) := by have := hu.1; have := hu.2; omega
          have HU : Hid (U = usedM p ∧ U ≤ k) := ⟨hu.1, by have := hu.1; have := hu.2; omega⟩
          clear hu HPRE HSI HUS
          have D2 := a1.on HBB2.out
          have L2 := a2.on HBB2.out
          have hlt1 : ∀ q, F q → q < wA.heap.size := fun q hq => (a1.lt q hq).2
          have hb2' := a8.trans (HBB2.out.mono a8.size)
          obtain ⟨b, off, rfl, hc⟩ := L2.now i o ho
          have q0 : w2.cell? ⟨b, off + i * 10, none⟩ = some (.int .i64 o.kind) := hc 0 _ rfl
          have q1 : w2.cell? ⟨b, off + i * 10 + 1, none⟩ = some (.int .i64 o.on) := hc 1 _ rfl
          have q2 : w2.cell? ⟨b, off + i * 10 + 2, none⟩ = some (.int .i64 o.n) := hc 2 _ rfl
          have q3 : w2.cell? ⟨b, off + i * 10 + 3, none⟩ = some (.string o.name) := hc 3 _ rfl
          have q4 : w2.cell? ⟨b, off + i * 10 + 4, none⟩ = some (.string o.tt) := hc 4 _ rfl
          have q5 : w2.cell? ⟨b, off + i * 10 + 5, none⟩ = some (.slice o.ba o.b.length o.bc) := hc 5 _ rfl
          have q6 : w2.cell? ⟨b, off + i * 10 + 6, none⟩ = some (.int .i64 o.p0) := hc 6 _ rfl
          have q7 : w2.cell? ⟨b, off + i * 10 + 7, none⟩ = some (.int .i64 o.p1) := hc 7 _ rfl
          have q8 : w2.cell? ⟨b, off + i * 10 + 8, none⟩ = some (.int .i64 o.p2) := hc 8 _ rfl
          have q9 : w2.cell? ⟨b, off + i * 10 + 9, none⟩ = some (.slice o.pa o.pn o.pc) := hc 9 _ rfl
          have bq : Below w2.heap.size w2 (w2.alloc (.cells #[.int .i64 o.kind, .int .i64 o.on, .int .i64 o.n, .string o.name, .string o.tt, .slice o.ba o.b.length o.bc, .int .i64 o.p0, .int .i64 o.p1, .int .i64 o.p2, .slice o.pa o.pn o.pc] 33)) := (Below.refl _ _).alloc (Nat.le_refl _) _
          have rq : (w2.alloc (.cells #[.int .i64 o.kind, .int .i64 o.on, .int .i64 o.n, .string o.name, .string o.tt, .slice o.ba o.b.length o.bc, .int .i64 o.p0, .int .i64 o.p1, .int .i64 o.p2, .slice o.pa o.pn o.pc] 33)).rowIs w2.heap.size 33 10 (fun j => (o.cells[j]?).getD undef) := World.rowIs_alloc w2 #[.int .i64 o.kind, .int .i64 o.on, .int .i64 o.n, .string o.name, .string o.tt, .slice o.ba o.b.length o.bc, .int .i64 o.p0, .int .i64 o.p1, .int .i64 o.p2, .slice o.pa o.pn o.pc] 33 (fun j => (o.cells[j]?).getD undef) (fun j hj => by
            show (o.cells.toArray)[j]? = some ((o.cells[j]?).getD undef)
            have hj' : j < o.cells.length := hj
            rw [List.getElem?_toArray, List.getElem?_eq_getElem hj']
            rfl)
          have HC0 : Hid (DK w2 w1'.heap.size db p n (64 + 4098 * i) F ∧ Lies lo hi w2 (fun W => OpsIn W (some ⟨b, off, none⟩) L) ∧ Below w1'.heap.size w1' w2 ∧ (∀ q, F q → q < wA.heap.size) ∧ wA.heap.size ≤ w2.heap.size) := ⟨D2, L2, hb2', hlt1, HBB2.out.size⟩
          have HST0 : Hid (Spare lo hi F ∧ Calm p ∧ p.pf = 0 ∧ Kept p ∧ p.room = k) := ⟨a3, a4, a5, a6, a7⟩
          clear a1 a2 a3 a4 a5 a6 a7 a8 D2 L2 hlt1 hb2' hc HALL
          go_upto_region 18 with fail
          clear q0 q1 q2 q3 q4 q5 q6 q7 q8 q9
          obtain ⟨W1, HW1⟩ : ∃ W, Hid (w2.alloc (.cells #[.int .i64 o.kind, .int .i64 o.on, .int .i64 o.n, .string o.name, .string o.tt, .slice o.ba o.b.length o.bc, .int .i64 o.p0, .int .i64 o.p1, .int .i64 o.p2, .slice o.pa o.pn o.pc] 33) = W) := ⟨_, rfl⟩
          rw [HW1.out]
          rw [HW1.out] at bq rq
          obtain ⟨g1, hg1⟩ : ∃ g, g = w2.heap.size := ⟨_, rfl⟩
          rw [← hg1]
          rw [← hg1] at rq
          have HG1 : Hid (g1 = w2.heap.size) := hg1
          clear hg1
          have x0 : W1.cell? ⟨g1, 0, none⟩ = some (.int .i64 o.kind) := rq.cell (i := 0) (by decide)
          have x1 : W1.cell? ⟨g1, 1, none⟩ = some (.int .i64 o.on) := rq.cell (i := 1) (by decide)
          have x2 : W1.cell? ⟨g1, 2, none⟩ = some (.int .i64 o.n) := rq.cell (i := 2) (by decide)
          have x3 : W1.cell? ⟨g1, 3, none⟩ = some (.string o.name) := rq.cell (i := 3) (by decide)
          have x4 : W1.cell? ⟨g1, 4, none⟩ = some (.string o.tt) := rq.cell (i := 4) (by decide)
          have x5 : W1.cell? ⟨g1, 5, none⟩ = some (.slice o.ba o.b.length o.bc) := rq.cell (i := 5) (by decide)
          have x6 : W1.cell? ⟨g1, 6, none⟩ = some (.int .i64 o.p0) := rq.cell (i := 6) (by decide)
          have x7 : W1.cell? ⟨g1, 7, none⟩ = some (.int .i64 o.p1) := rq.cell (i := 7) (by decide)
          have x8 : W1.cell? ⟨g1, 8, none⟩ = some (.int .i64 o.p2) := rq.cell (i := 8) (by decide)
          have x9 : W1.cell? ⟨g1, 9, none⟩ = some (.slice o.pa o.pn o.pc) := rq.cell (i := 9) (by decide)
          obtain ⟨E, hE⟩ : ∃ E, (stepM p n o.dp).2.2 = E := ⟨_, rfl⟩
          obtain ⟨hkind, hokw, hl4, hba⟩ := HOK.out i o ho
          have HOW : Hid (o.ok w1' ∧ o.b.length ≤ 4096) := ⟨hokw, hl4⟩
          have HPA : Hid (Calls Try.prog 9 #[.pointer (some ⟨db, 0, none⟩), .agg #[.int .i64 o.kind, .int .i64 o.on, .int .i64 o.n, .string o.name, .string o.tt, .slice o.ba o.b.length o.bc, .int .i64 o.p0, .int .i64 o.p1, .int .i64 o.p2, .slice o.pa o.pn o.pc]] W1 fun e w' => e = .returned (.int .i64 (E : Nat)) ∧ ∃ F', DK w' w1'.heap.size db (stepM p n o.dp).1 (stepM p n o.dp).2.1 (64 + 4098 * (i + 1)) F' ∧ (∀ W, Below w'.heap.size w' W → RoomS w1' db lo hi (some ⟨b, off, none⟩) L k (i + 1) W) ∧ ImgI w' sa (seenI p) ∧ w'.heap[g1]? = W1.heap[g1]? ∧ Below w1'.heap.size w1' w') := by
            obtain ⟨c1, c2, c3, c4, c5⟩ := HC0.out
            obtain ⟨s1, s2, s3, s4, s5⟩ := HST0.out
            have D1 := c1.on bq
            have L1 := c2.on bq
            have B1 := c3.trans (bq.mono c3.size)
            have hsee1 := HSEE.out.on bq
            have hspw : Spare wA.heap.size w2.heap.size F := fun q hq => .inl (c4 q hq)
            refine (play_step D1 B1 (by omega) o hokw hl4 hba).mono fun e w' ⟨he, F', hD', hM, hb'⟩ => ⟨by rw [he, hE], F', hD'.mono (by omega), fun W hW => ⟨⟨F', _, _, (hD'.mono (by omega)).on hW, (L1.mv s1 hM).1.on hW, (L1.mv s1 hM).2, step_calm s2 (step_same p n o.dp) hD'.inv, by rw [(step_same p n o.dp).pf]; exact s3, s4.step c1.inv o.dp, by rw [(step_off p n o.dp).2]; exact s5⟩, hb'.trans (hW.mono hb'.size)⟩, (hsee1.mv hspw hM).1.now, hM.block g1 rq.lt (fun hf => ?_), hb'⟩
            have := c4 g1 hf
            have := HG1.out
            omega
          have HPU : Hid (Inv p n (64 + 4098 * i)) := HC0.out.1.inv
          clear HC0 bq rq HW1 hba hokw HSEE HBB2
          by_cases hk : o.kind = 1
          · have hst := step_app (p := p) (n := n) hk
            obtain ⟨p', HP'⟩ : ∃ x, Hid ((appD p o.name o.b n).1 = x) := ⟨_, rfl⟩
            rw [hst] at HPA hE
            have hE' : (appD p o.name o.b n).2 = E := hE
            have HPA : Hid (Calls Try.prog 9 #[.pointer (some ⟨db, 0, none⟩), .agg #[.int .i64 o.kind, .int .i64 o.on, .int .i64 o.n, .string o.name, .string o.tt, .slice o.ba o.b.length o.bc, .int .i64 o.p0, .int .i64 o.p1, .int .i64 o.p2, .slice o.pa o.pn o.pc]] W1 fun e w' => e = .returned (.int .i64 (E : Nat)) ∧ ∃ F', DK w' w1'.heap.size db (appD p o.name o.b n).1 (appN p n o.name o.b) (64 + 4098 * (i + 1)) F' ∧ (∀ W, Below w'.heap.size w' W → RoomS w1' db lo hi (some ⟨b, off, none⟩) L k (i + 1) W) ∧ ImgI w' sa (seenI p) ∧ w'.heap[g1]? = W1.heap[g1]? ∧ Below w1'.heap.size w1' w') := HPA
            have HCM : Hid (Inv (appD p o.name o.b n).1 (appN p n o.name o.b) (64 + 4098 * (i + 1)) → Calm (appD p o.name o.b n).1) := fun hI => by
              have := step_calm (o := o.dp) (p := p) (n := n) (T := 64 + 4098 * (i + 1)) HST0.out.2.1 (step_same p n o.dp) (by rw [hst]; exact hI)
              rw [hst] at this
              exact this
            obtain ⟨r0, r44⟩ := app_adds HPU.out HST0.out.2.1 HST0.out.2.2.1 o.name o.b
            rw [hE'] at r0 r44
            have HK1 : Hid (o.kind = 1) := hk
            obtain ⟨S, hSU, HSS⟩ : ∃ S : Nat, ((U : Nat) : Int) + ((o.b.length : Nat) : Int) = (S : Int) ∧ Hid (S = U + o.b.length) := ⟨U + o.b.length, by omega, rfl⟩
            have hwS : IntKind.i64.wrap (S : Int) = (S : Int) := by have := HSS.out; have := HU.out; rw [IntKind.wrap_i64]; omega
            clear hst hE hE' hk hkind hl4
            by_cases hE0 : E = 0
            · subst hE0
              obtain ⟨hok, hfit, hnow⟩ := r0 rfl
              have nS : (S : Int) ≤ (k : Int) := by have := HSS.out; have := HU.out; have := HST0.out.2.2.2.2; omega
              clear r0 r44 hfit
              have e1 := idx_seen HPU.out HST0.out.2.1.1 hok
              rw [← e1] at hnow
              obtain ⟨OL, hOL⟩ : ∃ l, (idxI (seenI p) o.name.data.toList).getD [] = l := ⟨_, rfl⟩
              rw [hOL] at hnow
              have hOlen : OL.length ≤ 1048576 := by
                cases hx : idxI (seenI p) o.name.data.toList with
                | none => rw [hx] at hOL; rw [← hOL]; exact Nat.zero_le _
                | some l =>
                  rw [hx] at hOL
                  obtain ⟨q, hq1, hq2⟩ := idx_dt hx
                  have := HLD.out q hq1
                  rw [hq2] at this
                  rw [← hOL]
                  exact this
              have HOL : Hid ((idxI (seenI p) o.name.data.toList).getD [] = OL ∧ OL.length ≤ 1048576) := ⟨hOL, hOlen⟩
              have HNOW : Hid _ := hnow
              have HOKN : Hid (okN o.name = true) := hok
              clear e1 hnow hOL hOlen hok
              go_wp2_with fail
              refine HPA.out.mono ?_
              rintro e w3 ⟨rfl, F', d1, d2, d3, hg3, d5⟩
              rw [HK1.out] at x0
              have v0 : w3.cell? ⟨g1, 0, none⟩ = some (.int .i64 1) := by rw [World.cell?_of_block (a := ⟨g1, 0, none⟩) hg3]; exact x0
              have v3 : w3.cell? ⟨g1, 3, none⟩ = some (.string o.name) := by rw [World.cell?_of_block (a := ⟨g1, 3, none⟩) hg3]; exact x3
              have v5 : w3.cell? ⟨g1, 5, none⟩ = some (.slice o.ba o.b.length o.bc) := by rw [World.cell?_of_block (a := ⟨g1, 5, none⟩) hg3]; exact x5
              have hcal := HCM.out d1.inv
              have hidx := idx_seen d1.inv hcal.1 HOKN.out
              rw [HNOW.out] at hidx
              have hlk : lookI (appD p o.name o.b n).1 = seenI (appD p o.name o.b n).1 := by
                unfold lookI
                rw [if_neg (by rw [hcal.1]; simp)]
              have hll' := (lookI_dt d1.inv).1
              have hse := fun W (hb : Below w3.heap.size w3 W) => seen_is (d1.on hb) (by omega)
              rw [hlk] at hse hll'
              obtain ⟨SI, HSIe⟩ : ∃ x, Hid (seenI (appD p o.name o.b n).1 = x) := ⟨_, rfl⟩
              rw [HSIe.out] at hse hll' hidx
              obtain ⟨m', HMM⟩ : ∃ x, Hid (SI.length = x) := ⟨_, rfl⟩
              obtain ⟨ol, HOLn⟩ : ∃ x, Hid (OL.length = x) := ⟨_, rfl⟩
              obtain ⟨nl, HNL⟩ : ∃ x, Hid ((OL ++ o.b).length = x) := ⟨_, rfl⟩
              have HSE3 : Hid (∀ W, Below w3.heap.size w3 W → Calls Try.prog 11 #[.pointer (some ⟨db, 0, none⟩)] W fun e w' => ∃ a c, e = .returned (.slice a m' c) ∧ ImgI w' a SI ∧ Below w3.heap.size w3 w') := fun W hb => by
                have := hse W hb
                rw [HMM.out] at this
                exact this.mono fun e w' ⟨a, c, he, hl, hb'⟩ => ⟨a, c, he, hl.now, hb.trans (hb'.mono hb.size)⟩
              have HFW : Hid (Calls Try.prog 20 #[.slice sa j sc, .string o.name] w3 fun e w' => (∃ da dc bb, e = .returned (.tuple #[.slice da ol dc, .bool bb]) ∧ BL w3 da OL) ∧ w' = w3) := by
                have := find_getD (c := sc) d3 (by rw [HM.out]; omega) o.name
                rw [HOL.out.1, HM.out, HOLn.out] at this
                exact this
              have HFN : Hid (∀ W a c, ImgI W a SI → Calls Try.prog 20 #[.slice a m' c, .string o.name] W fun e w' => (∃ da dc, e = .returned (.tuple #[.slice da nl dc, .bool true]) ∧ BL W da (OL ++ o.b)) ∧ w' = W) := fun W a c hI => by
                have := find_some (c := c) hI (by omega) hidx
                rw [HMM.out, HNL.out] at this
                exact this
              have HRS : Hid (∀ W, Below w3.heap.size w3 W → RoomS w1' db lo hi (some ⟨b, off, none⟩) L k (i + 1) W) := d2
              have HOO : Hid (BL w3 o.ba o.b ∧ (o.ba = none → o.b.length = 0 ∧ o.bc = 0) ∧ o.b.length ≤ 4096) := ⟨Byt.on HOW.out.1.1 d5, HOW.out.1.2, HOW.out.2⟩
              have HV : Hid (∀ W, Below w3.heap.size w3 W → W.cell? ⟨g1, 3, none⟩ = some (.string o.name) ∧ W.cell? ⟨g1, 5, none⟩ = some (.slice o.ba o.b.length o.bc)) := fun W hb => ⟨cel_on hb v3, cel_on hb v5⟩
              clear HPA d1 d2 d3 d5 hg3 x0 x1 x2 x3 x4 x5 x6 x7 x8 x9 HPU HST0 HLD HM HCM hcal hidx hlk hll' hse HOKN HNOW HSIe HOW
              go_upto_region 23 with fail
              go_wp2_with fail
              refine HFW.out.mono ?_
              rintro e w3 ⟨⟨wa, wc, wb, rfl, hwas⟩, rfl⟩
              have HWAS : Hid (BL w3 wa OL) := hwas
              have hb0 : Below w3.heap.size w3 w3 := Below.refl _ _
              have hb0d : Below w3.heap.size w3 w3.drew := (Below.refl _ _).drew
              clear HFW hwas
              go_upto_region 24 with fail
              go_region_held3 (fun W => W.cell? ⟨g1, 3, none⟩ = some (.string o.name))
                (first | exact v3 | exact (HV.out _ hb4).1)
                (first
                  | (go_at_call 11; with_reducible refine (HSE3.out _ (by first | exact hb0 | exact hb0d)).mono ?_; rintro e w4 ⟨ta, tc, rfl, hi4, hb4⟩)
                  | (go_at_call 20; with_reducible refine (HFN.out _ _ _ hi4).mono ?_; rintro e w4 ⟨⟨na, nc, rfl, hbl⟩, rfl⟩))
              all_goals
                have hc0 : Below w4.heap.size w4 w4 := Below.refl _ _
                have hc0d : Below w4.heap.size w4 w4.drew := (Below.refl _ _).drew
                have v5' := (HV.out w4 hb4).2
                have HV5 : Hid (∀ W, Below w4.heap.size w4 W → W.cell? ⟨g1, 5, none⟩ = some (.slice o.ba o.b.length o.bc)) := fun W hb => cel_on hb v5'
                have HWS4 : Hid (BL w4 wa OL) := Byt.since HWAS.out (since_of_below hb4)
                have HO4 : Hid (BL w4 o.ba o.b) := Byt.since HOO.out.1 (since_of_below hb4)
                have HNW4 : Hid (BL w4 na (OL ++ o.b)) := hbl
                have HAP : Hid (∀ W v, OwnL W w4.heap.size v OL → Below w4.heap.size w4 W → ∃ va vc w', (Builtin.append_ #[29, 29] 29 #[v, .slice o.ba o.b.length o.bc]).run Try.prog W = .ok (.slice va nl vc) w' ∧ BL w' va (OL ++ o.b) ∧ Below w4.heap.size w4 w') := fun W v ho hb => by
                  have := appd_is ho hb o.ba o.bc HO4.out HOO.out.2.1 (by have := HOL.out.2; have := HOO.out.2.2; omega)
                  rw [← List.length_append, HNL.out] at this
                  exact this
                have HCP : Hid (∀ W, Below w4.heap.size w4 W → Calls Try.prog 22 #[.slice wa ol wc] W fun e w' => ∃ g va vc w6, e = .returned (.slice (some ⟨g, 0, none⟩) ol ol) ∧ Hid ((Builtin.append_ #[29, 29] 29 #[.slice (some ⟨g, 0, none⟩) ol ol, .slice o.ba o.b.length o.bc]).run Try.prog w' = .ok (.slice va nl vc) w6) ∧ BL w6 va (OL ++ o.b) ∧ Below w4.heap.size w4 w6 ∧ Below w4.heap.size w4 w') := fun W hb => by
                  have := cpy_is wa wc OL (by have := HOL.out.2; omega) HWS4.out hb
                  rw [HOLn.out] at this
                  refine this.mono fun e w' ⟨g, he, ho, hb'⟩ => ?_
                  obtain ⟨va, vc, w6, r1, r2, r3⟩ := HAP.out w' _ ho hb'
                  exact ⟨g, va, vc, w6, he, r1, r2, r3, hb'⟩
                have HEQ : Hid (∀ W a c d, BL W a (OL ++ o.b) → Below w4.heap.size w4 W → Calls Try.prog 21 #[.slice na nl c, .slice a nl d] W fun e w' => e = .returned (.bool true) ∧ Below w4.heap.size w4 w') := fun W a c d ha hb => by
                  have := eql_is (OL ++ o.b) na a c d (Byt.since HNW4.out (since_of_below hb)) ha (by rw [List.length_append]; have := HOL.out.2; have := HOO.out.2.2; omega) hb
                  rw [HNL.out] at this
                  exact this
                have HRS4 : Hid (∀ W, Below w4.heap.size w4 W → RoomS w1' db lo hi (some ⟨b, off, none⟩) L k (i + 1) W) := fun W hb => HRS.out W (hb4.trans (hb.mono hb4.size))
                clear HSE3 HFN HRS HOO HV HWAS HWS4 HO4 HNW4 hb0 hb0d hi4 hb4 hbl v0 v3 v5
                go_upto_region 25 with fail
                go_region_held3 (fun W => W.cell? ⟨g1, 5, none⟩ = some (.slice o.ba o.b.length o.bc))
                  (first | exact v5' | exact HV5.out _ hb5 | exact HV5.out _ hb6 | exact HV5.out _ hb7)
                  (first
                    | (go_at_call 22; with_reducible refine (HCP.out _ (by first | exact hc0 | exact hc0d)).mono ?_; rintro e w5 ⟨g5, va6, vc6, w6, rfl, HR, hbl6, hb6, hb5⟩)
                    | (refine step_appsG (by rfl) _ _ 29 (by rfl) _ _ _ (by rfl) (by rfl) HR.out ?_)
                    | (go_at_call 21; with_reducible refine (HEQ.out _ _ _ _ hbl6 hb6).mono ?_; rintro e w7 ⟨rfl, hb7⟩))
                all_goals
                  have hS7 := HRS4.out w7 hb7
                  clear HCP HAP HEQ HRS4 HV5 v5' hc0 hc0d
                  go_wp2_with fail
                  go_roundg (N - (i + 1))
                  case measure => go_light; omega
                  case rel => go_light; exact ⟨i + 1, by omega, rfl, by simp, hS7⟩
            · by_cases hE44 : E = 44
              · subst hE44
                obtain ⟨hnfit, hps⟩ := r44 rfl
                have nS : ¬ ((S : Int) ≤ (k : Int)) := by have := HSS.out; have := HU.out; have := HST0.out.2.2.2.2; omega
                rw [hps] at HPA
                have hlk : lookI (strokeM p) = seenI p := by
                  rw [HST0.out.2.1.str]
                  show lookI p = seenI p
                  unfold lookI
                  rw [if_neg (by rw [HST0.out.2.1.1]; simp)]
                have HLK : Hid (lookI (strokeM p) = seenI p) := hlk
                clear r0 r44 hnfit hps hlk hE0
                go_wp2_with fail
                refine HPA.out.mono ?_
                rintro e w3 ⟨rfl, F', d1, d2, d3, hg3, d5⟩
                rw [HK1.out] at x0
                have v0 : w3.cell? ⟨g1, 0, none⟩ = some (.int .i64 1) := by rw [World.cell?_of_block (a := ⟨g1, 0, none⟩) hg3]; exact x0
                have v3 : w3.cell? ⟨g1, 3, none⟩ = some (.string o.name) := by rw [World.cell?_of_block (a := ⟨g1, 3, none⟩) hg3]; exact x3
                have v5 : w3.cell? ⟨g1, 5, none⟩ = some (.slice o.ba o.b.length o.bc) := by rw [World.cell?_of_block (a := ⟨g1, 5, none⟩) hg3]; exact x5
                have HSE3 : Hid (Calls Try.prog 11 #[.pointer (some ⟨db, 0, none⟩)] w3 fun e w' => ∃ a c, e = .returned (.slice a j c) ∧ ImgI w' a (seenI p) ∧ Below w3.heap.size w3 w') := by
                  have := seen_is d1 (by omega)
                  rw [HLK.out, HM.out] at this
                  exact this.mono fun e w' ⟨a, c, he, hl, hb'⟩ => ⟨a, c, he, hl.now, hb'⟩
                have HIM3 : Hid (∀ W a c, ImgI W a (seenI p) → Below w3.heap.size w3 W → Calls Try.prog 16 #[.slice a j c, .slice sa j sc] W fun e w' => e = .returned (.bool true) ∧ Below w3.heap.size w3 w') := fun W a c h1 hb => by
                  have := image_is c sc h1 (d3.on hb) (by rw [HM.out]; omega) HLD.out
                  rw [HM.out] at this
                  exact this.mono fun e w' ⟨he, m, hm⟩ => ⟨he, by rw [hm]; exact below_drewN hb m⟩
                have HRS : Hid (∀ W, Below w3.heap.size w3 W → RoomS w1' db lo hi (some ⟨b, off, none⟩) L k (i + 1) W) := d2
                clear HPA d1 d2 d3 d5 hg3 x0 x1 x2 x3 x4 x5 x6 x7 x8 x9 HPU HST0 HLK HLD HM
                go_wp2_with fail
                refine HSE3.out.mono ?_
                rintro e w4 ⟨ta, tc, rfl, hi4, hb4⟩
                go_wp2_with fail
                refine (HIM3.out w4 _ _ hi4 hb4).mono ?_
                rintro e w5 ⟨rfl, hb5⟩
                have hS5 := HRS.out w5 hb5
                clear HSE3 HIM3 HRS v0 v3 v5 hi4 hb4 hb5
                go_wp2_with fail
                go_roundg (N - (i + 1))
                case measure => go_light; omega
                case rel => go_light; exact ⟨i + 1, by omega, rfl, by simp, hS5⟩
              · have k0 : (((E : Nat) : Int) != 0) = true := bne_iff_ne.2 (by omega)
                have k44 : (((E : Nat) : Int) != 44) = true := bne_iff_ne.2 (by omega)
                clear r0 r44 hE0 hE44
                go_wp2_with fail
                refine HPA.out.mono ?_
                rintro e w3 ⟨rfl, F', d1, d2, d3, hg3, d5⟩
                rw [HK1.out] at x0
                have v0 : w3.cell? ⟨g1, 0, none⟩ = some (.int .i64 1) := by rw [World.cell?_of_block (a := ⟨g1, 0, none⟩) hg3]; exact x0
                have v3 : w3.cell? ⟨g1, 3, none⟩ = some (.string o.name) := by rw [World.cell?_of_block (a := ⟨g1, 3, none⟩) hg3]; exact x3
                have v5 : w3.cell? ⟨g1, 5, none⟩ = some (.slice o.ba o.b.length o.bc) := by rw [World.cell?_of_block (a := ⟨g1, 5, none⟩) hg3]; exact x5
                have hS4 := d2 w3 (Below.refl _ _)
                clear HPA d1 d2 d3 d5 hg3 x0 x1 x2 x3 x4 x5 x6 x7 x8 x9 HPU HST0 HLD HM
                go_wp2_with fail
                go_roundg (N - (i + 1))
                case measure => go_light; omega
                case rel => go_light; exact ⟨i + 1, by omega, rfl, by simp, hS4⟩
          · have kb : (o.kind != 1) = true := bne_iff_ne.2 hk
            have kb2 : (o.kind == 1) = false := beq_eq_false_iff_ne.2 hk
            clear hk hE hkind
            go_wp2_with fail
            refine HPA.out.mono ?_
            rintro e w3 ⟨rfl, F', d1, d2, d3, hg3, d5⟩
            have v0 : w3.cell? ⟨g1, 0, none⟩ = some (.int .i64 o.kind) := by rw [World.cell?_of_block (a := ⟨g1, 0, none⟩) hg3]; exact x0
            have v3 : w3.cell? ⟨g1, 3, none⟩ = some (.string o.name) := by rw [World.cell?_of_block (a := ⟨g1, 3, none⟩) hg3]; exact x3
            have v5 : w3.cell? ⟨g1, 5, none⟩ = some (.slice o.ba o.b.length o.bc) := by rw [World.cell?_of_block (a := ⟨g1, 5, none⟩) hg3]; exact x5
            have hS4 := d2 w3 (Below.refl _ _)
            clear HPA d1 d2 d3 d5 hg3 x0 x1 x2 x3 x4 x5 x6 x7 x8 x9 HPU HST0 HLD HM
            go_wp2_with fail
            go_roundg (N - (i + 1))
            case measure => go_light; omega
            case rel => go_light; exact ⟨i + 1, by omega, rfl, by simp, hS4⟩
    · obtain rfl : i = N := by omega
      have hz : ¬ ((i : Int) < (i : Int)) := by omega
      have HB : Hid (Below w1'.heap.size w1' wr) := hS.below
      have hk0 : (0 : Int) ≤ (k : Int) := by omega
      clear hS
      go_wp2_with fail
      go_ret
      exact ⟨rfl, HEND.out _ HB.out⟩
end Go.Proofs.Ytbnlgohaaadgeaa
