/- Own texts, joined: H7. -/
import Derived.Test.YtbnlgohaaadgeaaM8

/- DiskOff. -/
namespace Go.Proofs.Ytbnlgohaaadgeaa
open Go.RowKit Go.Maps Go.Sort Go.Joins
set_option maxRecDepth 100000
set_option maxRecDepth 100000

theorem app_op2 {w : World} {K n : Nat} {v : Value} {xs : List Value} (h : w.ownsRow K 33 10 v n xs) (o1 o2 : OpV) (hn : n ≤ 1000000) (hK : K ≤ w.heap.size) :
    ∃ a c w', (Builtin.append_ #[22, 22] 22 #[v, .slice (some ⟨w.heap.size, 0, none⟩) 2 2]).run Try.prog (w.alloc (.cells (o1.cells ++ o2.cells).toArray 33)) = .ok (.slice a (n + 2) c) w' ∧ w'.ownsRow K 33 10 (.slice a (n + 2) c) (n + 2) (xs ++ (o1.cells ++ o2.cells)) ∧ w.grownBy w' v.ownBlock := by
  obtain ⟨i0, hi, hh⟩ := Option.map_eq_some_iff.1 infoOP
  simp only [Prod.mk.injEq] at hh
  obtain ⟨hz0, hz1, hz2⟩ := hh
  have hml : maxLen = 9223372036854775807 := rfl
  have hnews : ∀ j u, (o1.cells ++ o2.cells)[j]? = some u → (w.alloc (.cells (o1.cells ++ o2.cells).toArray 33)).cell? ((⟨w.heap.size, 0, none⟩ : Addr).add j) = some u := fun j u hj => by
    rw [show (⟨w.heap.size, 0, none⟩ : Addr).add j = ⟨w.heap.size, j, none⟩ by simp only [Addr.add, Nat.zero_add]; split <;> simp_all]
    rw [World.cell?_alloc_at (w := w) _ _ _ j rfl, ← hj]
    simp
  obtain ⟨v', w', h1, h2, h3, _, h5⟩ := run_append_own_at (P := Try.prog) (w.alloc (.cells (o1.cells ++ o2.cells).toArray 33)) K 22 22 33 i0 _ 10 128 Try.underlying22 hi hz0 hz1 hz2 rfl (by decide) v n xs (h.alloc _) ⟨w.heap.size, 0, none⟩ 2 2 (o1.cells ++ o2.cells) rfl hnews (fun u hu => by
    rcases List.mem_append.1 hu with hu | hu
    all_goals
      unfold OpV.cells at hu
      simp only [List.mem_cons, List.not_mem_nil, or_false] at hu
      rcases hu with e | e | e | e | e | e | e | e | e | e <;> (rw [e]; rfl)) (by omega) (by omega) (by simp; omega)
  obtain ⟨a, c, rfl⟩ : ∃ a c, v' = .slice a (n + 2) c := by
    rcases h2.2 with ⟨_, h0⟩ | ⟨g, c', cur, e, _⟩
    · omega
    · exact ⟨_, c', e⟩
  have hsz : (w.alloc (.cells (o1.cells ++ o2.cells).toArray 33)).heap.size = w.heap.size + 1 := by simp
  exact ⟨a, c, w', h1, h2, ⟨h3.os, h3.tape, h3.output, by have := h3.size; omega, fun b hb hne => (h3.block b (by omega) hne).trans (Below.heap_alloc _ _ _ hb)⟩⟩
def nameO : OpV := ⟨4, 0, 0, ⟨#[]⟩, ⟨#[]⟩, none, 0, [], 0, 0, 0, none, 0, 0⟩
/-- The two disks while the law plays. -/
structure OffSt (w1 : World) (da db lo hi : Nat) (va : Option Addr) (L : List OpV) (g f i c : Nat) (W : World) : Prop where
  mem : ∃ Fa Fb pa pb n, DK W w1.heap.size da pa n (64 + 4098 * i) Fa ∧ DK W w1.heap.size db pb n (64 + 4098 * i) Fb ∧ (∀ k, Fa k → ¬ Fb k) ∧ Sim pa pb ∧ Calm pa ∧ pa.pf = 0 ∧ pb.pf = 0 ∧ pb.off = false ∧ pb.po = (f : Nat) ∧ pb.ah = 0 ∧ pa.st = c ∧ pb.st = c ∧ pa.room = 67108864 ∧ Lies lo hi W (fun W => OpsIn W va L ∧ BL W (some ⟨g, 0, none⟩) [101, 110, 100]) ∧ Spare lo hi Fa ∧ Spare lo hi Fb
  below : Below w1.heap.size w1 W
set_option maxHeartbeats 100000000 in
theorem off_any (A : PowA) (w : World) (h : PowIn w w.heap.size A) :
    Calls Try.prog 7 #[.agg #[.slice A.oa A.ops.length A.oc, .int .i64 A.off, .slice A.pa A.ps.length A.pc, .slice A.ma A.more.length A.mc, .slice A.na A.nx.length A.nc]] w fun e w' => e = .returned (.bool true) ∧ Below w.heap.size w w' := by
  have HNUM : Hid (∀ (e : Int) W, Calls Try.prog 15 #[.int .i64 e] W fun r w' => r = .returned (.int .i64 e) ∧ w' = W) := num_is
  have bA : Below w.heap.size w (w.alloc (.cells #[.slice A.oa A.ops.length A.oc, .int .i64 A.off, .slice A.pa A.ps.length A.pc, .slice A.ma A.more.length A.mc, .slice A.na A.nx.length A.nc] 25)) := (Below.refl _ _).alloc (Nat.le_refl _) _
  have y0 : (w.alloc (.cells #[.slice A.oa A.ops.length A.oc, .int .i64 A.off, .slice A.pa A.ps.length A.pc, .slice A.ma A.more.length A.mc, .slice A.na A.nx.length A.nc] 25)).cell? ⟨w.heap.size, 0, none⟩ = some (.slice A.oa A.ops.length A.oc) := World.cell?_alloc_at (w := w) _ _ _ 0 rfl
  have y1 : (w.alloc (.cells #[.slice A.oa A.ops.length A.oc, .int .i64 A.off, .slice A.pa A.ps.length A.pc, .slice A.ma A.more.length A.mc, .slice A.na A.nx.length A.nc] 25)).cell? ⟨w.heap.size, 1, none⟩ = some (.int .i64 A.off) := World.cell?_alloc_at (w := w) _ _ _ 1 rfl
  have y2 : (w.alloc (.cells #[.slice A.oa A.ops.length A.oc, .int .i64 A.off, .slice A.pa A.ps.length A.pc, .slice A.ma A.more.length A.mc, .slice A.na A.nx.length A.nc] 25)).cell? ⟨w.heap.size, 2, none⟩ = some (.slice A.pa A.ps.length A.pc) := World.cell?_alloc_at (w := w) _ _ _ 2 rfl
  have y3 : (w.alloc (.cells #[.slice A.oa A.ops.length A.oc, .int .i64 A.off, .slice A.pa A.ps.length A.pc, .slice A.ma A.more.length A.mc, .slice A.na A.nx.length A.nc] 25)).cell? ⟨w.heap.size, 3, none⟩ = some (.slice A.ma A.more.length A.mc) := World.cell?_alloc_at (w := w) _ _ _ 3 rfl
  have hPI : PowIn (w.alloc (.cells #[.slice A.oa A.ops.length A.oc, .int .i64 A.off, .slice A.pa A.ps.length A.pc, .slice A.ma A.more.length A.mc, .slice A.na A.nx.length A.nc] 25)) w.heap.size A := h.on bA
  obtain ⟨w1, HW⟩ : ∃ W, Hid (w.alloc (.cells #[.slice A.oa A.ops.length A.oc, .int .i64 A.off, .slice A.pa A.ps.length A.pc, .slice A.ma A.more.length A.mc, .slice A.na A.nx.length A.nc] 25) = W) := ⟨_, rfl⟩
  rw [HW.out] at bA y0 y1 y2 y3 hPI
  have HP : Hid (PowIn w1 w1.heap.size A) := hPI.up bA.size
  have HEND : Hid (∀ W, Below w1.heap.size w1 W → Below w.heap.size w W) := fun W hb => bA.trans (hb.mono bA.size)
  have HBX : Hid (∀ W, Below w1.heap.size w1 W → W.cell? ⟨w.heap.size, 0, none⟩ = some (.slice A.oa A.ops.length A.oc) ∧ W.cell? ⟨w.heap.size, 1, none⟩ = some (.int .i64 A.off) ∧ W.cell? ⟨w.heap.size, 2, none⟩ = some (.slice A.pa A.ps.length A.pc) ∧ W.cell? ⟨w.heap.size, 3, none⟩ = some (.slice A.ma A.more.length A.mc)) := fun W hb => ⟨cel_on hb y0, cel_on hb y1, cel_on hb y2, cel_on hb y3⟩
  clear h hPI bA y0 y1 y2 y3
  go_enter Try.func7, Try.ntmps7
  go_upto_region 1 with fail
  rw [HW.out]
  go_wp2_with fail
  refine (open_is w1).mono ?_
  rintro e w2 ⟨da, Fa, rfl, hA2, hb2⟩
  go_wp2_with fail
  refine (open_is w2).mono ?_
  rintro e w3 ⟨db, Fb, rfl, hB3, hb3⟩
  have hA3 := hA2.on hb3
  have hb13 := hb2.trans (hb3.mono hb2.size)
  have hBl := hB3.low hb2.size
  have hdis : ∀ k, Fa k → ¬ Fb k := fun k h1 h2 => by
    have := (hA2.lt k h1).2
    have := (hB3.lt k h2).1
    omega
  obtain ⟨b0, b1, b2, b3⟩ := HBX.out w3 hb13
  have HWI : Hid (∀ (x : Int) (m : Nat) W, 1 ≤ m → m ≤ 1000 → Calls Try.prog 17 #[.int .i64 x, .int .i64 (m : Nat)] W fun r w' => ∃ k : Nat, k < m ∧ r = .returned (.int .i64 (k : Nat)) ∧ w' = W) := fun x m W h1 h2 => within_is x m h1 h2 W
  clear hA2 hb2 hB3
  go_wp2_with fail
  refine (HWI.out A.off 40 w3 (by decide) (by decide)).mono ?_
  rintro e w3' ⟨k1, hk1, rfl, hw3⟩
  subst hw3
  obtain ⟨f, hf1, hf2⟩ : ∃ f : Nat, (1 : Int) + (k1 : Int) = (f : Int) ∧ Hid (f = 1 + k1) := ⟨1 + k1, by omega, rfl⟩
  have hwf : IntKind.i64.wrap (f : Int) = (f : Int) := by rw [IntKind.wrap_i64]; omega
  have HTF : Hid (1 ≤ f ∧ f ≤ 1000) := by
    have q1 := hf2.out
    exact ⟨by omega, by omega⟩
  clear hf2 HWI
  obtain ⟨w4, hw4⟩ : ∃ x, x = w3' := ⟨_, rfl⟩
  subst hw4
  have HPLN : Hid (Calls Try.prog 25 #[.pointer (some ⟨db, 0, none⟩), .agg #[.int .i64 (f : Int), .int .i64 0, .int .i64 0]] w4 fun e w' => e = .returned (.tuple #[]) ∧ ∃ F', DK w' w1.heap.size db (planM (emptyP 67108864) (f : Int) 0 0) 0 64 F' ∧ DK w' w1.heap.size da (emptyP 67108864) 0 64 Fa ∧ (∀ k, Fa k → ¬ F' k) ∧ Below w1.heap.size w1 w') := (hBl.plan f 0 0).mono fun e w' ⟨he, F', hD', hM⟩ => by
    refine ⟨he, F', hD', (hA3.other hdis hM).1, (hA3.other hdis hM).2, Mv.below hb13 hb13.size (fun k hk => (hBl.lt k hk).1) hM⟩
  clear hA3 hBl hdis hb13 hb3
  go_wp2_with fail
  refine HPLN.out.mono ?_
  rintro e w5 ⟨rfl, Fb5, hB5, hA5, hdis5, hb5⟩
  clear HPLN b0 b1 b2 b3
  obtain ⟨b0, b1, b2, b3⟩ := HBX.out w5 hb5
  have HFW : Hid (Calls Try.prog 10 #[.slice A.oa A.ops.length A.oc] w5 fun e w' => ∃ va vc, e = .returned (.slice va (fewL A.ops).length vc) ∧ w'.ownsRow w5.heap.size 33 10 (.slice va (fewL A.ops).length vc) (fewL A.ops).length (opsCells (fewL A.ops)) ∧ Below w5.heap.size w5 w') := few_own A.oa A.oc A.ops w5 (HP.out.ops.on hb5) HP.out.ok
  have hlen := few_len A.ops
  have HOK : Hid (∀ (o : OpV), o ∈ fewL A.ops → fewO o = true ∧ o.ok w1 ∧ o.b.length ≤ 4096 ∧ ∀ ad, o.ba = some ad → 0 < o.b.length → ad.block < w1.heap.size) := fun o ho => ⟨few_kind ho, HP.out.ok.few ho⟩
  obtain ⟨fl, hflE⟩ : ∃ fl, fewL A.ops = fl := ⟨_, rfl⟩
  rw [hflE] at HFW hlen HOK
  obtain ⟨N0, hN0⟩ : ∃ N, fl.length = N := ⟨_, rfl⟩
  rw [hN0] at HFW hlen
  clear hflE
  go_wp2_with fail
  refine HFW.out.mono ?_
  rintro e w6 ⟨va, vc, rfl, hown, hb6⟩
  clear HFW b0 b1 b2 b3
  have kc := Lib.run_convert_bytes_const (P := Try.prog) w6 29 5 #[.int .u8 101, .int .u8 110, .int .u8 100] 3 3 Try.underlying29 Try.underlying5
  have bq : Below w6.heap.size w6 (w6.alloc (.cells #[.int .u8 101, .int .u8 110, .int .u8 100] 5 (3, 4))) := (Below.refl _ _).alloc (Nat.le_refl _) _
  have hbl : BL (w6.alloc (.cells #[.int .u8 101, .int .u8 110, .int .u8 100] 5 (3, 4))) (some ⟨w6.heap.size, 0, none⟩) [101, 110, 100] := lit_bl w6 _ _ _ (fun j hj => by
    match j, hj with
    | 0, _ => rfl
    | 1, _ => rfl
    | 2, _ => rfl)
  have own7 := own_on hown bq
  have hb57 := hb6.trans (bq.mono hb6.size)
  obtain ⟨w7, HW7⟩ : ∃ W, Hid (w6.alloc (.cells #[.int .u8 101, .int .u8 110, .int .u8 100] 5 (3, 4)) = W) := ⟨_, rfl⟩
  rw [HW7.out] at bq hbl own7 hb57
  obtain ⟨ua, uc, w8, hrun, hown8, hg8⟩ := app_op2 own7 nameO (endO w6.heap.size) (by omega) hb57.size
  have hrun' : (Builtin.append_ #[22, 22] 22 #[.slice va N0 vc, .slice (some ⟨w7.heap.size, 0, none⟩) 2 2]).run Try.prog (w7.alloc (.cells #[.int .i64 4, .int .i64 0, .int .i64 0, .string ⟨#[]⟩, .string ⟨#[]⟩, .slice none 0 0, .int .i64 0, .int .i64 0, .int .i64 0, .slice none 0 0, .int .i64 1, .int .i64 0, .int .i64 0, .string ⟨#[122]⟩, .string ⟨#[]⟩, .slice (some ⟨w6.heap.size, 0, none⟩) 3 3, .int .i64 0, .int .i64 0, .int .i64 0, .slice none 0 0] 33)) = .ok (.slice ua (N0 + 2) uc) w8 := hrun
  have HRUN : Hid _ := hrun'
  have hb58 : Below w5.heap.size w5 w8 := grown_own hb57 own7 hg8
  have hgl : w6.heap.size < w7.heap.size := by rw [← HW7.out]; simp
  have hbl8 : BL w8 (some ⟨w6.heap.size, 0, none⟩) [101, 110, 100] := fun j hj => by
    obtain ⟨b', o', e', hc'⟩ := hbl j hj
    cases e'
    refine ⟨w6.heap.size, 0, rfl, ?_⟩
    rw [World.cell?_of_block (a := ⟨w6.heap.size, 0 + j, none⟩) (hg8.block _ hgl (fun e => ?_))]
    · exact hc'
    · have := (rows_lt hown w6.heap.size e.symm).2
      omega
  have eapp : opsCells fl ++ (nameO.cells ++ (endO w6.heap.size).cells) = opsCells (fl ++ [nameO] ++ [endO w6.heap.size]) := by rw [opsCells_snoc, opsCells_snoc, List.append_assoc]
  have elen : fl.length + 2 = (fl ++ [nameO] ++ [endO w6.heap.size]).length := by rw [List.length_append, List.length_append]; rfl
  rw [eapp, ← hN0, elen] at hown8
  have hS0 : OffSt w1 da db w5.heap.size w8.heap.size ua (fl ++ [nameO] ++ [endO w6.heap.size]) w6.heap.size f 0 0 w8 := by
    have hLo := own_opsIn hown8
    refine ⟨⟨Fa, Fb5, _, _, 0, hA5.on hb58, hB5.on hb58, hdis5, ⟨rfl, rfl, rfl, rfl, rfl, rfl⟩, ⟨rfl, rfl, Nat.le_refl _⟩, rfl, rfl, rfl, rfl, rfl, rfl, rfl, rfl, ⟨Nat.le_refl _, fun W hW => ⟨hLo.2 W hW, fun j hj => ?_⟩⟩, fun k hk => .inl (hA5.lt k hk).2, fun k hk => .inl (hB5.lt k hk).2⟩, hb5.trans (hb58.mono hb5.size)⟩
    obtain ⟨b', o', e', hc'⟩ := hbl8 j hj
    cases e'
    refine ⟨w6.heap.size, 0, rfl, ?_⟩
    rw [World.cell?_of_block (a := ⟨w6.heap.size, 0 + j, none⟩) (hW _ hb6.size (World.block_lt_of_cell? _ _ hc'))]
    exact hc'
  have HLH : Hid (w5.heap.size ≤ w6.heap.size ∧ w6.heap.size < w8.heap.size) := ⟨hb6.size, by have := hg8.size; omega⟩
  obtain ⟨L, HL⟩ : ∃ L, Hid (fl ++ [nameO] ++ [endO w6.heap.size] = L) := ⟨_, rfl⟩
  rw [HL.out] at hS0
  have HOKL : Hid (∀ (i : Nat) (o : OpV), L[i]? = some o → (1 ≤ o.kind ∧ o.kind ≤ 6) ∧ o.b.length ≤ 4096 ∧ ∀ W F, Below w1.heap.size w1 W → (∀ k, F k → w1.heap.size ≤ k) → Lies w5.heap.size w8.heap.size W (fun W => OpsIn W ua L ∧ BL W (some ⟨w6.heap.size, 0, none⟩) [101, 110, 100]) → Spare w5.heap.size w8.heap.size F → o.ok W ∧ ∀ ad, o.ba = some ad → 0 < o.b.length → ad.block < W.heap.size ∧ ¬ F ad.block) := fun i o ho => by
    have hm := List.mem_of_getElem? ho
    rw [← HL.out] at hm
    rcases List.mem_append.1 hm with h1 | h1
    · rcases List.mem_append.1 h1 with h1 | h1
      · obtain ⟨q1, ⟨q2, q3⟩, q4, q5⟩ := HOK.out o h1
        unfold fewO at q1
        simp only [Bool.and_eq_true, decide_eq_true_eq] at q1
        refine ⟨q1, q4, fun W F hb hF _ _ => ⟨⟨Byt.on q2 hb, q3⟩, fun ad e h0 => ⟨Nat.lt_of_lt_of_le (q5 ad e h0) hb.size, fun hf => ?_⟩⟩⟩
        have := hF _ hf
        have := q5 ad e h0
        omega
      · rw [List.mem_singleton.1 h1]
        exact ⟨⟨by show (1 : Int) ≤ 4; decide, by show (4 : Int) ≤ 6; decide⟩, Nat.zero_le _, fun W F hb hF hL hSp => ⟨⟨fun j hj => absurd hj (Nat.not_lt_zero _), fun _ => ⟨rfl, rfl⟩⟩, fun ad e => by cases e⟩⟩
    · rw [List.mem_singleton.1 h1]
      refine ⟨⟨by show (1 : Int) ≤ 1; decide, by show (1 : Int) ≤ 6; decide⟩, by show 3 ≤ 4096; decide, fun W F hb hF hL hSp => ⟨⟨hL.now.2, fun e => by cases e⟩, fun ad e _ => ?_⟩⟩
      have e2 : ad.block = w6.heap.size := by
        have e3 : (some ⟨w6.heap.size, 0, none⟩ : Option Addr) = some ad := e
        rw [← Option.some.inj e3]
      rw [e2]
      obtain ⟨l1, l2⟩ := HLH.out
      refine ⟨Nat.lt_of_lt_of_le l2 hL.1, fun hf => ?_⟩
      rcases hSp _ hf with q | q <;> omega
  obtain ⟨N, hN⟩ : ∃ N, N0 + 2 = N := ⟨_, rfl⟩
  rw [hN] at HRUN
  have hNl : N ≤ 202 := by omega
  have HLN : Hid (L.length = N) := by rw [← HL.out, List.length_append, List.length_append, hN0, ← hN]; rfl
  have hz7 : (w6.alloc (.cells #[.int .u8 101, .int .u8 110, .int .u8 100] 5 (3, 4))).heap.size = w6.heap.size + 1 := by simp
  rw [← HW7.out, hz7] at HRUN
  clear hown own7 hown8 hg8 hb57 hb58 hbl hbl8 bq hgl eapp elen hA5 hB5 hdis5 hb5 hb6 HOK HL HLH hN hN0 hrun hrun' hlen hz7 HW7
  go_wp2_with (at_builtin; refine wpList_append_eq rfl _ _ 22 rfl _ _ _ (by rfl) (by rfl) HRUN.out ?_)
  clear HRUN kc
  generalize w6.heap.size = g0 at *
  generalize w5.heap.size = lo at *
  generalize w8.heap.size = hi at *
  go_loopg [7, 8] N (fun q s7 s8 wx => ∃ (i c : Nat), i ≤ N ∧ c ≤ i ∧ c < f ∧ q = N - i ∧ s8 = .int .i64 i ∧ s7 = .int .i64 c ∧ OffSt w1 da db lo hi ua L g0 f i c wx)
  case atStart => exact ⟨0, 0, Nat.zero_le _, Nat.le_refl _, HTF.out.1, rfl, rfl, rfl, hS0⟩
  case round =>
    obtain ⟨i, c, hi0, hci, hcf, rfl, rfl, rfl, hS⟩ := hrel
    clear hS0
    by_cases hlt : i < N
    · have hz : (i : Int) < (N : Int) := by omega
      have hwi : IntKind.i64.wrap ((i : Int) + 1) = (i : Int) + 1 := by rw [IntKind.wrap_i64]; omega
      obtain ⟨C1, hC1, HC1⟩ : ∃ C1 : Nat, (c : Int) + 1 = (C1 : Int) ∧ Hid (C1 = c + 1) := ⟨c + 1, by omega, rfl⟩
      have hwc : IntKind.i64.wrap (C1 : Int) = (C1 : Int) := by rw [IntKind.wrap_i64]; omega
      obtain ⟨⟨Fa, Fb, pa, pb, n, hDa, hDb, hFF, hsim, hca, hpa, hpf, hoff, hpo, hah, hst, hstb, hro, hL, hSa, hSb⟩, hb⟩ := hS
      obtain ⟨o, ho⟩ : ∃ o, L[i]? = some o := ⟨_, List.getElem?_eq_getElem (by have := HLN.out; omega)⟩
      obtain ⟨b, off, rfl, hc⟩ := hL.now.1 i o ho
      clear hc
      obtain ⟨b0, b1, b2, b3⟩ := HBX.out wr hb
      clear b0 b1 b3
      have HCR : Hid (Calls Try.prog 12 #[.pointer (some ⟨da, 0, none⟩), .slice A.pa A.ps.length A.pc] wr fun e w' => ∃ g, e = .returned (.slice (some ⟨g, 0, none⟩) (crashI pa A.ps).length (crashI pa A.ps).length) ∧ Lies wr.heap.size w'.heap.size w' (fun W => ImgI W (some ⟨g, 0, none⟩) (crashI pa A.ps)) ∧ Below wr.heap.size wr w') := hDa.crash (by omega) A.ps A.pa A.pc (HP.out.ps.on hb)
      have hroom : o.dp.l.length + usedM pa ≤ pa.room := by
        have q1 := hDa.inv.used
        have q2 := (HOKL.out i o ho).2.1
        show o.b.length + usedM pa ≤ pa.room
        rw [hro]
        omega
      obtain ⟨hkind, hl4, hokf⟩ := HOKL.out i o ho
      have HKF : Hid (∀ W F, Below w1.heap.size w1 W → (∀ k, F k → w1.heap.size ≤ k) → Lies lo hi W (fun W => OpsIn W (some ⟨b, off, none⟩) L ∧ BL W (some ⟨g0, 0, none⟩) [101, 110, 100]) → Spare lo hi F → o.ok W ∧ ∀ ad, o.ba = some ad → 0 < o.b.length → ad.block < W.heap.size ∧ ¬ F ad.block) := hokf
      have HALL : Hid (DK wr w1.heap.size da pa n (64 + 4098 * i) Fa ∧ DK wr w1.heap.size db pb n (64 + 4098 * i) Fb ∧ (∀ k, Fa k → ¬ Fb k) ∧ Lies lo hi wr (fun W => OpsIn W (some ⟨b, off, none⟩) L ∧ BL W (some ⟨g0, 0, none⟩) [101, 110, 100]) ∧ Spare lo hi Fa ∧ Spare lo hi Fb ∧ Below w1.heap.size w1 wr) := ⟨hDa, hDb, hFF, hL, hSa, hSb, hb⟩
      have HOC : Hid (∀ W, Lies lo hi W (fun W => OpsIn W (some ⟨b, off, none⟩) L ∧ BL W (some ⟨g0, 0, none⟩) [101, 110, 100]) → ∀ (j : Nat) (v : Value), o.cells[j]? = some v → W.cell? ⟨b, off + i * 10 + j, none⟩ = some v) := fun W hW j v hv => by
        obtain ⟨b', off', e', hc'⟩ := hW.now.1 i o ho
        cases e'
        exact hc' j v hv
      -- what both answer
      obtain ⟨E, hE⟩ : ∃ E, (stepM pa n o.dp).2.2 = E := ⟨_, rfl⟩
      have hhit : c + 1 = f → Hit pb := fun e => ⟨hoff, by unfold hitB; rw [hstb, hah, hpo, beq_iff_eq]; omega⟩
      have hqui : c + 1 ≠ f → Quiet pb := fun e => ⟨hoff, by unfold hitB; rw [hstb, hah, hpo, beq_eq_false_iff_ne]; omega⟩
      have hcont : ¬ (E = 0 ∧ c + 1 = f) → (stepM pb n o.dp).2.2 = E ∧ (stepM pb n o.dp).2.1 = (stepM pa n o.dp).2.1 ∧ Sim (stepM pa n o.dp).1 (stepM pb n o.dp).1 ∧ E ≠ 44 ∧ E ≠ 45 ∧ (E = 0 → (stepM pa n o.dp).1.st = c + 1 ∧ (stepM pb n o.dp).1.st = c + 1) ∧ (E ≠ 0 → (stepM pa n o.dp).1.st = c ∧ (stepM pb n o.dp).1.st = c) ∧ Same pa (stepM pa n o.dp).1 ∧ Same pb (stepM pb n o.dp).1 ∧ (stepM pb n o.dp).1.off = false := fun hn => by
        by_cases hf : c + 1 = f
        · have hE0 : E ≠ 0 := fun q => hn ⟨q, hf⟩
          obtain ⟨q1, q2, q3, q4, q5, q6, q7⟩ := (step_hit hsim hca.quiet (hhit hf) hpa hpf n o.dp hkind hroom).no (by rw [hE]; exact hE0)
          rw [hE] at q1 q6 q7
          exact ⟨q1, by rw [q4, q5], by rw [q2, q3]; exact hsim, q6, q7, fun q => absurd q hE0, fun _ => by rw [q2, q3]; exact ⟨hst, hstb⟩, by rw [q2]; exact Same.refl _, by rw [q3]; exact Same.refl _, by rw [q3]; exact hoff⟩
        · have hq := hqui hf
          rcases step_both2 hsim hca.quiet hq hpf n o.dp hkind hroom with ⟨_, _, _, _, r5⟩ | ⟨hB, _⟩
          · unfold fullB at r5
            rw [hpa] at r5
            simp at r5
          · refine ⟨by rw [← hB.err, hE], hB.num.symm, hB.sim, by rw [← hE]; exact hB.e44, by rw [← hE]; exact hB.e45, fun q => ?_, fun q => ?_, hB.sa, hB.sb, ?_⟩
            · obtain ⟨r1, r2⟩ := hB.yes (by rw [hE]; exact q)
              rw [r1, r2, hst, hstb]
              exact ⟨rfl, rfl⟩
            · obtain ⟨r1, r2⟩ := hB.no (by rw [hE]; exact q)
              rw [r1, r2, hst, hstb]
              exact ⟨rfl, rfl⟩
            · rcases (step_off pb n o.dp).1 with e | e
              · rw [e]; exact hoff
              · rw [e, hq.str]; exact hoff
      have hfinl : E = 0 → c + 1 = f → OffS pa pb n o.dp.kind (stepM pa n o.dp) (stepM pb n o.dp) := fun _ hf => step_hit hsim hca.quiet (hhit hf) hpa hpf n o.dp hkind hroom
      have HCON : Hid _ := hcont
      have HFNL : Hid _ := hfinl
      have HMOD : Hid (Calm pa ∧ pa.pf = 0 ∧ pb.pf = 0 ∧ pb.po = (f : Nat) ∧ pb.ah = 0 ∧ pa.room = 67108864 ∧ pb.st = c) := ⟨hca, hpa, hpf, hpo, hah, hro, hstb⟩
      have HIA : Hid (Inv pa n (64 + 4098 * i)) := hDa.inv
      clear hDa hDb hFF hsim hca hpa hpf hoff hpo hah hst hstb hro hL hSa hSb hb hroom hokf hhit hqui hcont hfinl
      go_wp2_with fail
      refine HCR.out.mono ?_
      rintro e w2 ⟨cg, rfl, hbef, hb2⟩
      clear HCR b2
      have HPA : Hid (Calls Try.prog 9 #[.pointer (some ⟨da, 0, none⟩), .agg #[.int .i64 o.kind, .int .i64 o.on, .int .i64 o.n, .string o.name, .string o.tt, .slice o.ba o.b.length o.bc, .int .i64 o.p0, .int .i64 o.p1, .int .i64 o.p2, .slice o.pa o.pn o.pc]] w2 fun e w' => e = .returned (.int .i64 (E : Nat)) ∧ ∃ Fa', DK w' w1.heap.size da (stepM pa n o.dp).1 (stepM pa n o.dp).2.1 (64 + 4098 * (i + 1)) Fa' ∧ DK w' w1.heap.size db pb n (64 + 4098 * i) Fb ∧ (∀ k, Fa' k → ¬ Fb k) ∧ Lies lo hi w' (fun W => OpsIn W (some ⟨b, off, none⟩) L ∧ BL W (some ⟨g0, 0, none⟩) [101, 110, 100]) ∧ Spare lo hi Fa' ∧ Spare lo hi Fb ∧ Below w1.heap.size w1 w' ∧ Lies wr.heap.size w2.heap.size w' (fun W => ImgI W (some ⟨cg, 0, none⟩) (crashI pa A.ps)) ∧ Spare wr.heap.size w2.heap.size Fb) := by
        obtain ⟨a1, a2, a3, a4, a5, a6, a7⟩ := HALL.out
        have a7' := a7.trans (hb2.mono a7.size)
        obtain ⟨k1, k2⟩ := HKF.out w2 Fa a7' (fun k hk => (a1.lt k hk).1) (a4.on hb2) a5
        have hsp : Spare wr.heap.size w2.heap.size Fa := fun k hk => .inl (a1.lt k hk).2
        refine (play_free (a1.on hb2) a7' (by omega) o k1 hl4 k2).mono fun e w' ⟨he, Fa', hD', hM, hb'⟩ => ⟨by rw [he, hE], Fa', hD'.mono (by omega), ((a2.on hb2).other (fun k h1 h2 => a3 k h2 h1) hM).1, fun k h1 h2 => ((a2.on hb2).other (fun k h1 h2 => a3 k h2 h1) hM).2 k h2 h1, ((a4.on hb2).mv a5 hM).1, ((a4.on hb2).mv a5 hM).2, a6, hb', (hbef.mv hsp hM).1, fun k hk => .inl (a2.lt k hk).2⟩
      have HC2 : Hid (∀ (j : Nat) (v : Value), o.cells[j]? = some v → w2.cell? ⟨b, off + i * 10 + j, none⟩ = some v) := HOC.out w2 (HALL.out.2.2.2.1.on hb2)
      have hc2 := HC2.out
      have q0 : w2.cell? ⟨b, off + i * 10, none⟩ = some (.int .i64 o.kind) := hc2 0 _ rfl
      have q1 : w2.cell? ⟨b, off + i * 10 + 1, none⟩ = some (.int .i64 o.on) := hc2 1 _ rfl
      have q2 : w2.cell? ⟨b, off + i * 10 + 2, none⟩ = some (.int .i64 o.n) := hc2 2 _ rfl
      have q3 : w2.cell? ⟨b, off + i * 10 + 3, none⟩ = some (.string o.name) := hc2 3 _ rfl
      have q4 : w2.cell? ⟨b, off + i * 10 + 4, none⟩ = some (.string o.tt) := hc2 4 _ rfl
      have q5 : w2.cell? ⟨b, off + i * 10 + 5, none⟩ = some (.slice o.ba o.b.length o.bc) := hc2 5 _ rfl
      have q6 : w2.cell? ⟨b, off + i * 10 + 6, none⟩ = some (.int .i64 o.p0) := hc2 6 _ rfl
      have q7 : w2.cell? ⟨b, off + i * 10 + 7, none⟩ = some (.int .i64 o.p1) := hc2 7 _ rfl
      have q8 : w2.cell? ⟨b, off + i * 10 + 8, none⟩ = some (.int .i64 o.p2) := hc2 8 _ rfl
      have q9 : w2.cell? ⟨b, off + i * 10 + 9, none⟩ = some (.slice o.pa o.pn o.pc) := hc2 9 _ rfl
      have HE : Hid ((stepM pa n o.dp).2.2 = E) := hE
      clear hc2 HC2 HALL hbef hb2 hE
      go_wp2_with fail
      refine HPA.out.mono ?_
      rintro e w3 ⟨rfl, Fa', d1, d2, d3, d4, d5, d6, d7, d8, d9⟩
      clear HPA q0 q1 q2 q3 q4 q5 q6 q7 q8 q9
      have hc3 := HOC.out w3 d4
      have v0 : w3.cell? ⟨b, off + i * 10, none⟩ = some (.int .i64 o.kind) := hc3 0 _ rfl
      have v1 : w3.cell? ⟨b, off + i * 10 + 1, none⟩ = some (.int .i64 o.on) := hc3 1 _ rfl
      have v2 : w3.cell? ⟨b, off + i * 10 + 2, none⟩ = some (.int .i64 o.n) := hc3 2 _ rfl
      have v3 : w3.cell? ⟨b, off + i * 10 + 3, none⟩ = some (.string o.name) := hc3 3 _ rfl
      have v4 : w3.cell? ⟨b, off + i * 10 + 4, none⟩ = some (.string o.tt) := hc3 4 _ rfl
      have v5 : w3.cell? ⟨b, off + i * 10 + 5, none⟩ = some (.slice o.ba o.b.length o.bc) := hc3 5 _ rfl
      have v6 : w3.cell? ⟨b, off + i * 10 + 6, none⟩ = some (.int .i64 o.p0) := hc3 6 _ rfl
      have v7 : w3.cell? ⟨b, off + i * 10 + 7, none⟩ = some (.int .i64 o.p1) := hc3 7 _ rfl
      have v8 : w3.cell? ⟨b, off + i * 10 + 8, none⟩ = some (.int .i64 o.p2) := hc3 8 _ rfl
      have v9 : w3.cell? ⟨b, off + i * 10 + 9, none⟩ = some (.slice o.pa o.pn o.pc) := hc3 9 _ rfl
      clear hc3
      by_cases hfin : E = 0 ∧ c + 1 = f
      · obtain ⟨hE0, hcf1⟩ := hfin
        subst hE0
        have hf1 : f = C1 := by have := HC1.out; omega
        subst hf1
        have HX : Hid _ := (HFNL.out rfl hcf1).err HE.out
        have HPBF : Hid (Calls Try.prog 9 #[.pointer (some ⟨db, 0, none⟩), .agg #[.int .i64 o.kind, .int .i64 o.on, .int .i64 o.n, .string o.name, .string o.tt, .slice o.ba o.b.length o.bc, .int .i64 o.p0, .int .i64 o.p1, .int .i64 o.p2, .slice o.pa o.pn o.pc]] w3 fun e w' => e = .returned (.int .i64 45) ∧ ∃ Fb', DK w' w1.heap.size db (stepM pb n o.dp).1 (stepM pb n o.dp).2.1 (64 + 4098 * (i + 1)) Fb' ∧ DK w' w1.heap.size da (stepM pa n o.dp).1 (stepM pa n o.dp).2.1 (64 + 4098 * (i + 1)) Fa' ∧ (∀ k, Fa' k → ¬ Fb' k) ∧ Below w1.heap.size w1 w' ∧ Lies wr.heap.size w2.heap.size w' (fun W => ImgI W (some ⟨cg, 0, none⟩) (crashI pa A.ps)) ∧ Spare wr.heap.size w2.heap.size Fb' ∧ (∀ (j : Nat) (v : Value), o.cells[j]? = some v → w'.cell? ⟨b, off + i * 10 + j, none⟩ = some v)) := by
          obtain ⟨k1, k2⟩ := HKF.out w3 Fb d7 (fun k hk => (d2.lt k hk).1) d4 d6
          refine (play_free d2 d7 (by omega) o k1 hl4 k2).mono fun e w' ⟨he, Fb', hD', hM, hb'⟩ => ⟨by rw [he, HX.out.1]; rfl, Fb', hD'.mono (by omega), (d1.other d3 hM).1, (d1.other d3 hM).2, hb', (d8.mv d9 hM).1, (d8.mv d9 hM).2, HOC.out w' (d4.mv d6 hM).1⟩
        have HCY : Hid (∀ W, Calls Try.prog 26 #[.int .i64 0] W fun r w' => r = .returned (.bool true) ∧ w' = W) := fun W => counted_yes 0 (by omega) W
        have n1 : ¬ (f : Int) < (f : Int) := by omega
        clear d1 d2 d3 d4 d5 d6 d7 d8 d9
        by_cases hk3 : o.kind = 3
        · have HK : Hid (o.kind = 3) := hk3
          clear hk3 hkind
          have HEQ : Hid (crashI (stepM pb n o.dp).1 A.ps = crashI pa A.ps) := by
            exact ((HX.out.2.2.2.1 (by show o.kind = 3 ∨ o.kind = 4; have := HK.out; omega)).crash A.ps).symm
          go_wp2_with fail
          refine HPBF.out.mono ?_
          rintro e w4 ⟨rfl, Fb', f1, f2, f3, f5, f6, f7, f8⟩
          have u0 : w4.cell? ⟨b, off + i * 10, none⟩ = some (.int .i64 3) := by
            have := f8 0 _ rfl
            rw [HK.out] at this
            exact this
          have HCRA : Hid (Calls Try.prog 12 #[.pointer (some ⟨da, 0, none⟩), .slice A.pa A.ps.length A.pc] w4 fun e w' => ∃ g, e = .returned (.slice (some ⟨g, 0, none⟩) (crashI (stepM pa n o.dp).1 A.ps).length (crashI (stepM pa n o.dp).1 A.ps).length) ∧ Lies w4.heap.size w'.heap.size w' (fun W => ImgI W (some ⟨g, 0, none⟩) (crashI (stepM pa n o.dp).1 A.ps)) ∧ Below w4.heap.size w4 w') := f2.crash (by omega) A.ps A.pa A.pc (HP.out.ps.on f5)
          obtain ⟨b0, b1, b2, b3⟩ := HBX.out w4 f5
          clear b0 b1 b3 HPBF v0 v1 v2 v3 v4 v5 v6 v7 v8 v9
          have HF1 : Hid (DK w4 w1.heap.size db (stepM pb n o.dp).1 (stepM pb n o.dp).2.1 (64 + 4098 * (i + 1)) Fb' ∧ Below w1.heap.size w1 w4 ∧ Lies wr.heap.size w2.heap.size w4 (fun W => ImgI W (some ⟨cg, 0, none⟩) (crashI pa A.ps)) ∧ Spare wr.heap.size w2.heap.size Fb') := ⟨f1, f5, f6, f7⟩
          clear f1 f2 f3 f5 f6 f7 f8
          go_wp2_with (go_at_call 26; refine (HCY.out _).mono ?_; rintro e w4 ⟨rfl, rfl⟩)
          refine HCRA.out.mono ?_
          rintro e w5 ⟨ag, rfl, haft, hb5⟩
          clear HCRA u0 b2
          obtain ⟨f1, f5, f6, f7⟩ := HF1.out
          have g1 := f1.on hb5
          have g5 := f5.trans (hb5.mono f5.size)
          have hwl := f6.on hb5
          have hws := f7
          have hIb := g1.inv
          have hcl : (crashI (stepM pb n o.dp).1 A.ps).length ≤ 64 := (crashI_len hIb A.ps).2
          have hcd : ∀ j, j < (crashI (stepM pb n o.dp).1 A.ps).length → (dtI (crashI (stepM pb n o.dp).1 A.ps) j).length ≤ 1048576 := fun j hj => by have := crashI_dt hIb A.ps j hj; omega
          rw [HEQ.out] at hcl hcd
          obtain ⟨pF, HpF⟩ : ∃ x, Hid ((stepM pb n o.dp).1 = x) := ⟨_, rfl⟩
          have HOFF : Hid (pF.off = true ∧ pF.st = f) := by rw [← HpF.out]; exact ⟨HX.out.2.1, by rw [HX.out.2.2.1, HMOD.out.2.2.2.2.2.2]; exact HC1.out.symm⟩
          rw [HpF.out] at g1 HEQ
          obtain ⟨WI, HWI⟩ : ∃ x, Hid (crashI pa A.ps = x) := ⟨_, rfl⟩
          rw [HWI.out] at HEQ hwl hcl hcd
          obtain ⟨WL, HWL⟩ : ∃ x, Hid (WI.length = x) := ⟨_, rfl⟩
          rw [HWI.out, HWL.out]
          have HCB : Hid (∀ W F2 T2, DK W w1.heap.size db pF (stepM pb n o.dp).2.1 T2 F2 → T2 ≤ 1099511627000 → Below w1.heap.size w1 W → Calls Try.prog 12 #[.pointer (some ⟨db, 0, none⟩), .slice A.pa A.ps.length A.pc] W fun e w' => ∃ g, e = .returned (.slice (some ⟨g, 0, none⟩) WL WL) ∧ ImgI w' (some ⟨g, 0, none⟩) WI ∧ Below W.heap.size W w') := fun W F2 T2 h1 h2 h3 => by
            have := h1.crash h2 A.ps A.pa A.pc (HP.out.ps.on h3)
            rw [HEQ.out, HWL.out] at this
            exact this.mono fun e w' ⟨g, he, hl, hb'⟩ => ⟨g, he, hl.now, hb'⟩
          have HIM : Hid (∀ W a c', ImgI W a WI → ImgI W (some ⟨cg, 0, none⟩) WI → Calls Try.prog 16 #[.slice a WL c', .slice (some ⟨cg, 0, none⟩) WL WL] W fun e w' => e = .returned (.bool true) ∧ Below W.heap.size W w') := fun W a c' h1 h2 => by
            have := image_is c' WL h1 h2 (by omega) hcd
            rw [HWL.out] at this
            exact this.mono fun e w' ⟨he, m, hm⟩ => ⟨he, by rw [hm]; exact below_drewN (Below.refl _ _) m⟩
          have HRD : Hid (Calls Try.prog 28 #[.pointer (some ⟨db, 0, none⟩), .string ⟨#[97]⟩] w5 fun e w' => ∃ xa xn xc, e = .returned (.tuple #[.slice xa xn xc, .int .i64 45]) ∧ Below w5.heap.size w5 w') := by
            have hr : readM pF ⟨#[97]⟩ = ([], 45) := by
              have hf : findM pF.off pF.seen ⟨#[97]⟩ = (none, 45) := by unfold findM; rw [HOFF.out.1]; rfl
              unfold readM; rw [hf]
            have := g1.read (by omega) ⟨#[97]⟩
            rw [hr] at this
            exact this.mono fun e w' ⟨v, he, ho, hb'⟩ => by obtain ⟨xa, xc, ev, _⟩ := ho.bl; exact ⟨xa, 0, xc, by rw [he, ev]; rfl, hb'⟩
          have HLS : Hid (∀ W, Below w5.heap.size w5 W → Calls Try.prog 29 #[.pointer (some ⟨db, 0, none⟩)] W fun e w' => e = .returned (.tuple #[.slice none 0 0, .int .i64 45]) ∧ w' = W) := fun W hbW => (g1.on hbW).listOff HOFF.out.1
          have HSI : Hid (∀ W s, Below w5.heap.size w5 W → Calls Try.prog 30 #[.pointer (some ⟨db, 0, none⟩), .string s] W fun e w' => e = .returned (.tuple #[.int .i64 0, .int .i64 45]) ∧ w' = W) := fun W s hbW => (g1.on hbW).sizeOff s HOFF.out.1
          have HG1 : Hid (DK w5 w1.heap.size db pF (stepM pb n o.dp).2.1 (64 + 4098 * (i + 1)) Fb' ∧ Below w1.heap.size w1 w5 ∧ Lies wr.heap.size w2.heap.size w5 (fun W => ImgI W (some ⟨cg, 0, none⟩) WI) ∧ Spare wr.heap.size w2.heap.size Fb') := ⟨g1, g5, hwl, hws⟩
          clear f1 f5 f6 f7 g1 g5 hwl hws hIb hcl hcd haft hb5 HF1 HX HIA HKF HOC HE HMOD HpF HCON HFNL HWI HEQ HCY
          go_wp2_with (go_at_call 28; refine HRD.out.mono ?_; rintro e w6 ⟨xa, xn, xc, rfl, hb6⟩)
          refine (HLS.out _ hb6).mono ?_
          rintro e w6 ⟨rfl, rfl⟩
          go_wp2_with fail
          refine (HSI.out _ _ hb6).mono ?_
          rintro e w6 ⟨rfl, rfl⟩
          have HG6 : Hid (DK w6 w1.heap.size db pF (stepM pb n o.dp).2.1 (64 + 4098 * (i + 1)) Fb' ∧ Below w1.heap.size w1 w6 ∧ Lies wr.heap.size w2.heap.size w6 (fun W => ImgI W (some ⟨cg, 0, none⟩) WI)) := ⟨HG1.out.1.on hb6, HG1.out.2.1.trans (hb6.mono HG1.out.2.1.size), HG1.out.2.2.1.on hb6⟩
          have HCB6 : Hid _ := HCB.out w6 Fb' _ HG6.out.1 (by omega) HG6.out.2.1
          obtain ⟨b0, b1, b2, b3⟩ := HBX.out w6 HG6.out.2.1
          clear b0 b1 b3 HRD HLS HSI hb6
          go_wp2_with (go_at_call 15; refine (HNUM.out _ _).mono ?_; rintro e w6 ⟨rfl, rfl⟩)
          refine Calls.mono HCB6.out ?_
          rintro e w7 ⟨dg, rfl, hi7, hb7⟩
          have HIM7 : Hid _ := HIM.out w7 _ WL hi7 ((HG6.out.2.2.on hb7).now)
          clear HCB6 b2 hi7
          go_wp2_with fail
          refine Calls.mono HIM7.out ?_
          rintro e w8 ⟨rfl, hb8⟩
          have hb68 := hb7.trans (hb8.mono hb7.size)
          have HB18 : Hid (Below w1.heap.size w1 w8) := HG6.out.2.1.trans (hb68.mono HG6.out.2.1.size)
          have HD8 : Hid (DK w8 w1.heap.size db pF (stepM pb n o.dp).2.1 (64 + 4098 * (i + 1)) Fb') := HG6.out.1.on hb68
          have HL8 : Hid (Lies wr.heap.size w2.heap.size w8 (fun W => ImgI W (some ⟨cg, 0, none⟩) WI)) := HG6.out.2.2.on hb68
          obtain ⟨b0, b1, b2, b3⟩ := HBX.out w8 HB18.out
          have HFW : Hid (Calls Try.prog 10 #[.slice A.ma A.more.length A.mc] w8 fun e w' => ∃ va vc, e = .returned (.slice va (fewL A.more).length vc) ∧ Below w8.heap.size w8 w' ∧ Calls Try.prog 31 #[.pointer (some ⟨db, 0, none⟩), .slice va (fewL A.more).length vc] w' fun e w2 => e = .returned (.bool true) ∧ ∃ F2, DK w2 w1.heap.size db pF (stepM pb n o.dp).2.1 (64 + 4098 * (i + 1) + 900000) F2 ∧ Below w1.heap.size w1 w2 ∧ ImgI w2 (some ⟨cg, 0, none⟩) WI) := (few_run A.ma A.mc A.more w8 (HP.out.more.on HB18.out) HP.out.mok).mono fun e w' ⟨va, vc, he, hl, hb'⟩ => by
            refine ⟨va, vc, he, hb', ?_⟩
            have hD9 := HD8.out.on hb'
            have hB9 := HB18.out.trans (hb'.mono HB18.out.size)
            refine (gone_is hD9 HOFF.out.1 hB9 (by omega) vc (few_len A.more) hl (fun k hk => .inl (HD8.out.lt k hk).2) (fun j o' ho' => ?_)).mono fun e w2 ⟨he2, F2, h1, h2, h3⟩ => ⟨he2, F2, h1, h3, ((HL8.out.on hb').mv HG1.out.2.2.2 h2).1.now⟩
            have hm := List.mem_of_getElem? ho'
            have hq := few_kind hm
            unfold fewO at hq
            simp only [Bool.and_eq_true, decide_eq_true_eq] at hq
            exact ⟨hq, HP.out.mok.few hm⟩
          obtain ⟨ML, HML⟩ : ∃ x, Hid ((fewL A.more).length = x) := ⟨_, rfl⟩
          rw [HML.out] at HFW
          clear b0 b1 b2 HIM7 hb7 hb8 hb68 HG6
          go_wp2_with fail
          refine HFW.out.mono ?_
          rintro e w9 ⟨va, vc, rfl, hb9, hgo⟩
          have HGO : Hid (Calls Try.prog 31 #[.pointer (some ⟨db, 0, none⟩), .slice va ML vc] w9 fun e w2 => e = .returned (.bool true) ∧ ∃ F2, DK w2 w1.heap.size db pF (stepM pb n o.dp).2.1 (64 + 4098 * (i + 1) + 900000) F2 ∧ Below w1.heap.size w1 w2 ∧ ImgI w2 (some ⟨cg, 0, none⟩) WI) := hgo
          clear HFW hgo b3
          go_wp2_with fail
          refine HGO.out.mono ?_
          rintro e w10 ⟨rfl, F10, hD10, hB10, hi10⟩
          have HCB10 : Hid _ := HCB.out w10 F10 _ hD10 (by omega) hB10
          have HSTR : Hid (∀ W, Below w10.heap.size w10 W → Calls Try.prog 27 #[.pointer (some ⟨db, 0, none⟩)] W fun e w' => e = .returned (.int .i64 (f : Nat)) ∧ w' = W) := fun W hbW => by
            have := (hD10.on hbW).strokes
            rw [HOFF.out.2] at this
            exact this
          have HI10 : Hid (ImgI w10 (some ⟨cg, 0, none⟩) WI) := hi10
          have HE10 : Hid (∀ W, Below w10.heap.size w10 W → Below w.heap.size w W) := fun W hbW => HEND.out W (hB10.trans (hbW.mono hB10.size))
          obtain ⟨b0, b1, b2, b3⟩ := HBX.out w10 hB10
          clear b0 b1 b3 HGO hD10 hB10 hi10 hb9
          go_wp2_with fail
          refine Calls.mono HCB10.out ?_
          rintro e w11 ⟨eg, rfl, hi11, hb11⟩
          have HIM11 : Hid _ := HIM.out w11 _ WL hi11 (HI10.out.on hb11)
          clear HCB10 b2 hi11
          go_wp2_with fail
          refine Calls.mono HIM11.out ?_
          rintro e w12 ⟨rfl, hb12⟩
          have hb1012 := hb11.trans (hb12.mono hb11.size)
          clear HIM11 HIM HCB
          go_wp2_with fail
          refine (HSTR.out w12 hb1012).mono ?_
          rintro e w12 ⟨rfl, rfl⟩
          go_wp2_with fail
          go_ret
          exact ⟨rfl, HE10.out _ hb1012⟩
        by_cases hk4 : o.kind = 4
        · have HK : Hid (o.kind = 4) := hk4
          clear hk3 hk4 hkind
          have HEQ : Hid (crashI (stepM pb n o.dp).1 A.ps = crashI pa A.ps) := by
            exact ((HX.out.2.2.2.1 (by show o.kind = 3 ∨ o.kind = 4; have := HK.out; omega)).crash A.ps).symm
          go_wp2_with fail
          refine HPBF.out.mono ?_
          rintro e w4 ⟨rfl, Fb', f1, f2, f3, f5, f6, f7, f8⟩
          have u0 : w4.cell? ⟨b, off + i * 10, none⟩ = some (.int .i64 4) := by
            have := f8 0 _ rfl
            rw [HK.out] at this
            exact this
          have HCRA : Hid (Calls Try.prog 12 #[.pointer (some ⟨da, 0, none⟩), .slice A.pa A.ps.length A.pc] w4 fun e w' => ∃ g, e = .returned (.slice (some ⟨g, 0, none⟩) (crashI (stepM pa n o.dp).1 A.ps).length (crashI (stepM pa n o.dp).1 A.ps).length) ∧ Lies w4.heap.size w'.heap.size w' (fun W => ImgI W (some ⟨g, 0, none⟩) (crashI (stepM pa n o.dp).1 A.ps)) ∧ Below w4.heap.size w4 w') := f2.crash (by omega) A.ps A.pa A.pc (HP.out.ps.on f5)
          obtain ⟨b0, b1, b2, b3⟩ := HBX.out w4 f5
          clear b0 b1 b3 HPBF v0 v1 v2 v3 v4 v5 v6 v7 v8 v9
          have HF1 : Hid (DK w4 w1.heap.size db (stepM pb n o.dp).1 (stepM pb n o.dp).2.1 (64 + 4098 * (i + 1)) Fb' ∧ Below w1.heap.size w1 w4 ∧ Lies wr.heap.size w2.heap.size w4 (fun W => ImgI W (some ⟨cg, 0, none⟩) (crashI pa A.ps)) ∧ Spare wr.heap.size w2.heap.size Fb') := ⟨f1, f5, f6, f7⟩
          clear f1 f2 f3 f5 f6 f7 f8
          go_wp2_with (go_at_call 26; refine (HCY.out _).mono ?_; rintro e w4 ⟨rfl, rfl⟩)
          refine HCRA.out.mono ?_
          rintro e w5 ⟨ag, rfl, haft, hb5⟩
          clear HCRA u0 b2
          obtain ⟨f1, f5, f6, f7⟩ := HF1.out
          have g1 := f1.on hb5
          have g5 := f5.trans (hb5.mono f5.size)
          have hwl := f6.on hb5
          have hws := f7
          have hIb := g1.inv
          have hcl : (crashI (stepM pb n o.dp).1 A.ps).length ≤ 64 := (crashI_len hIb A.ps).2
          have hcd : ∀ j, j < (crashI (stepM pb n o.dp).1 A.ps).length → (dtI (crashI (stepM pb n o.dp).1 A.ps) j).length ≤ 1048576 := fun j hj => by have := crashI_dt hIb A.ps j hj; omega
          rw [HEQ.out] at hcl hcd
          obtain ⟨pF, HpF⟩ : ∃ x, Hid ((stepM pb n o.dp).1 = x) := ⟨_, rfl⟩
          have HOFF : Hid (pF.off = true ∧ pF.st = f) := by rw [← HpF.out]; exact ⟨HX.out.2.1, by rw [HX.out.2.2.1, HMOD.out.2.2.2.2.2.2]; exact HC1.out.symm⟩
          rw [HpF.out] at g1 HEQ
          obtain ⟨WI, HWI⟩ : ∃ x, Hid (crashI pa A.ps = x) := ⟨_, rfl⟩
          rw [HWI.out] at HEQ hwl hcl hcd
          obtain ⟨WL, HWL⟩ : ∃ x, Hid (WI.length = x) := ⟨_, rfl⟩
          rw [HWI.out, HWL.out]
          have HCB : Hid (∀ W F2 T2, DK W w1.heap.size db pF (stepM pb n o.dp).2.1 T2 F2 → T2 ≤ 1099511627000 → Below w1.heap.size w1 W → Calls Try.prog 12 #[.pointer (some ⟨db, 0, none⟩), .slice A.pa A.ps.length A.pc] W fun e w' => ∃ g, e = .returned (.slice (some ⟨g, 0, none⟩) WL WL) ∧ ImgI w' (some ⟨g, 0, none⟩) WI ∧ Below W.heap.size W w') := fun W F2 T2 h1 h2 h3 => by
            have := h1.crash h2 A.ps A.pa A.pc (HP.out.ps.on h3)
            rw [HEQ.out, HWL.out] at this
            exact this.mono fun e w' ⟨g, he, hl, hb'⟩ => ⟨g, he, hl.now, hb'⟩
          have HIM : Hid (∀ W a c', ImgI W a WI → ImgI W (some ⟨cg, 0, none⟩) WI → Calls Try.prog 16 #[.slice a WL c', .slice (some ⟨cg, 0, none⟩) WL WL] W fun e w' => e = .returned (.bool true) ∧ Below W.heap.size W w') := fun W a c' h1 h2 => by
            have := image_is c' WL h1 h2 (by omega) hcd
            rw [HWL.out] at this
            exact this.mono fun e w' ⟨he, m, hm⟩ => ⟨he, by rw [hm]; exact below_drewN (Below.refl _ _) m⟩
          have HRD : Hid (Calls Try.prog 28 #[.pointer (some ⟨db, 0, none⟩), .string ⟨#[97]⟩] w5 fun e w' => ∃ xa xn xc, e = .returned (.tuple #[.slice xa xn xc, .int .i64 45]) ∧ Below w5.heap.size w5 w') := by
            have hr : readM pF ⟨#[97]⟩ = ([], 45) := by
              have hf : findM pF.off pF.seen ⟨#[97]⟩ = (none, 45) := by unfold findM; rw [HOFF.out.1]; rfl
              unfold readM; rw [hf]
            have := g1.read (by omega) ⟨#[97]⟩
            rw [hr] at this
            exact this.mono fun e w' ⟨v, he, ho, hb'⟩ => by obtain ⟨xa, xc, ev, _⟩ := ho.bl; exact ⟨xa, 0, xc, by rw [he, ev]; rfl, hb'⟩
          have HLS : Hid (∀ W, Below w5.heap.size w5 W → Calls Try.prog 29 #[.pointer (some ⟨db, 0, none⟩)] W fun e w' => e = .returned (.tuple #[.slice none 0 0, .int .i64 45]) ∧ w' = W) := fun W hbW => (g1.on hbW).listOff HOFF.out.1
          have HSI : Hid (∀ W s, Below w5.heap.size w5 W → Calls Try.prog 30 #[.pointer (some ⟨db, 0, none⟩), .string s] W fun e w' => e = .returned (.tuple #[.int .i64 0, .int .i64 45]) ∧ w' = W) := fun W s hbW => (g1.on hbW).sizeOff s HOFF.out.1
          have HG1 : Hid (DK w5 w1.heap.size db pF (stepM pb n o.dp).2.1 (64 + 4098 * (i + 1)) Fb' ∧ Below w1.heap.size w1 w5 ∧ Lies wr.heap.size w2.heap.size w5 (fun W => ImgI W (some ⟨cg, 0, none⟩) WI) ∧ Spare wr.heap.size w2.heap.size Fb') := ⟨g1, g5, hwl, hws⟩
          clear f1 f5 f6 f7 g1 g5 hwl hws hIb hcl hcd haft hb5 HF1 HX HIA HKF HOC HE HMOD HpF HCON HFNL HWI HEQ HCY
          go_wp2_with (go_at_call 28; refine HRD.out.mono ?_; rintro e w6 ⟨xa, xn, xc, rfl, hb6⟩)
          refine (HLS.out _ hb6).mono ?_
          rintro e w6 ⟨rfl, rfl⟩
          go_wp2_with fail
          refine (HSI.out _ _ hb6).mono ?_
          rintro e w6 ⟨rfl, rfl⟩
          have HG6 : Hid (DK w6 w1.heap.size db pF (stepM pb n o.dp).2.1 (64 + 4098 * (i + 1)) Fb' ∧ Below w1.heap.size w1 w6 ∧ Lies wr.heap.size w2.heap.size w6 (fun W => ImgI W (some ⟨cg, 0, none⟩) WI)) := ⟨HG1.out.1.on hb6, HG1.out.2.1.trans (hb6.mono HG1.out.2.1.size), HG1.out.2.2.1.on hb6⟩
          have HCB6 : Hid _ := HCB.out w6 Fb' _ HG6.out.1 (by omega) HG6.out.2.1
          obtain ⟨b0, b1, b2, b3⟩ := HBX.out w6 HG6.out.2.1
          clear b0 b1 b3 HRD HLS HSI hb6
          go_wp2_with (go_at_call 15; refine (HNUM.out _ _).mono ?_; rintro e w6 ⟨rfl, rfl⟩)
          refine Calls.mono HCB6.out ?_
          rintro e w7 ⟨dg, rfl, hi7, hb7⟩
          have HIM7 : Hid _ := HIM.out w7 _ WL hi7 ((HG6.out.2.2.on hb7).now)
          clear HCB6 b2 hi7
          go_wp2_with fail
          refine Calls.mono HIM7.out ?_
          rintro e w8 ⟨rfl, hb8⟩
          have hb68 := hb7.trans (hb8.mono hb7.size)
          have HB18 : Hid (Below w1.heap.size w1 w8) := HG6.out.2.1.trans (hb68.mono HG6.out.2.1.size)
          have HD8 : Hid (DK w8 w1.heap.size db pF (stepM pb n o.dp).2.1 (64 + 4098 * (i + 1)) Fb') := HG6.out.1.on hb68
          have HL8 : Hid (Lies wr.heap.size w2.heap.size w8 (fun W => ImgI W (some ⟨cg, 0, none⟩) WI)) := HG6.out.2.2.on hb68
          obtain ⟨b0, b1, b2, b3⟩ := HBX.out w8 HB18.out
          have HFW : Hid (Calls Try.prog 10 #[.slice A.ma A.more.length A.mc] w8 fun e w' => ∃ va vc, e = .returned (.slice va (fewL A.more).length vc) ∧ Below w8.heap.size w8 w' ∧ Calls Try.prog 31 #[.pointer (some ⟨db, 0, none⟩), .slice va (fewL A.more).length vc] w' fun e w2 => e = .returned (.bool true) ∧ ∃ F2, DK w2 w1.heap.size db pF (stepM pb n o.dp).2.1 (64 + 4098 * (i + 1) + 900000) F2 ∧ Below w1.heap.size w1 w2 ∧ ImgI w2 (some ⟨cg, 0, none⟩) WI) := (few_run A.ma A.mc A.more w8 (HP.out.more.on HB18.out) HP.out.mok).mono fun e w' ⟨va, vc, he, hl, hb'⟩ => by
            refine ⟨va, vc, he, hb', ?_⟩
            have hD9 := HD8.out.on hb'
            have hB9 := HB18.out.trans (hb'.mono HB18.out.size)
            refine (gone_is hD9 HOFF.out.1 hB9 (by omega) vc (few_len A.more) hl (fun k hk => .inl (HD8.out.lt k hk).2) (fun j o' ho' => ?_)).mono fun e w2 ⟨he2, F2, h1, h2, h3⟩ => ⟨he2, F2, h1, h3, ((HL8.out.on hb').mv HG1.out.2.2.2 h2).1.now⟩
            have hm := List.mem_of_getElem? ho'
            have hq := few_kind hm
            unfold fewO at hq
            simp only [Bool.and_eq_true, decide_eq_true_eq] at hq
            exact ⟨hq, HP.out.mok.few hm⟩
          obtain ⟨ML, HML⟩ : ∃ x, Hid ((fewL A.more).length = x) := ⟨_, rfl⟩
          rw [HML.out] at HFW
          clear b0 b1 b2 HIM7 hb7 hb8 hb68 HG6
          go_wp2_with fail
          refine HFW.out.mono ?_
          rintro e w9 ⟨va, vc, rfl, hb9, hgo⟩
          have HGO : Hid (Calls Try.prog 31 #[.pointer (some ⟨db, 0, none⟩), .slice va ML vc] w9 fun e w2 => e = .returned (.bool true) ∧ ∃ F2, DK w2 w1.heap.size db pF (stepM pb n o.dp).2.1 (64 + 4098 * (i + 1) + 900000) F2 ∧ Below w1.heap.size w1 w2 ∧ ImgI w2 (some ⟨cg, 0, none⟩) WI) := hgo
          clear HFW hgo b3
          go_wp2_with fail
          refine HGO.out.mono ?_
          rintro e w10 ⟨rfl, F10, hD10, hB10, hi10⟩
          have HCB10 : Hid _ := HCB.out w10 F10 _ hD10 (by omega) hB10
          have HSTR : Hid (∀ W, Below w10.heap.size w10 W → Calls Try.prog 27 #[.pointer (some ⟨db, 0, none⟩)] W fun e w' => e = .returned (.int .i64 (f : Nat)) ∧ w' = W) := fun W hbW => by
            have := (hD10.on hbW).strokes
            rw [HOFF.out.2] at this
            exact this
          have HI10 : Hid (ImgI w10 (some ⟨cg, 0, none⟩) WI) := hi10
          have HE10 : Hid (∀ W, Below w10.heap.size w10 W → Below w.heap.size w W) := fun W hbW => HEND.out W (hB10.trans (hbW.mono hB10.size))
          obtain ⟨b0, b1, b2, b3⟩ := HBX.out w10 hB10
          clear b0 b1 b3 HGO hD10 hB10 hi10 hb9
          go_wp2_with fail
          refine Calls.mono HCB10.out ?_
          rintro e w11 ⟨eg, rfl, hi11, hb11⟩
          have HIM11 : Hid _ := HIM.out w11 _ WL hi11 (HI10.out.on hb11)
          clear HCB10 b2 hi11
          go_wp2_with fail
          refine Calls.mono HIM11.out ?_
          rintro e w12 ⟨rfl, hb12⟩
          have hb1012 := hb11.trans (hb12.mono hb11.size)
          clear HIM11 HIM HCB
          go_wp2_with fail
          refine (HSTR.out w12 hb1012).mono ?_
          rintro e w12 ⟨rfl, rfl⟩
          go_wp2_with fail
          go_ret
          exact ⟨rfl, HE10.out _ hb1012⟩
        have kb3 : (o.kind == 3) = false := beq_eq_false_iff_ne.2 hk3
        have kb4 : (o.kind == 4) = false := beq_eq_false_iff_ne.2 hk4
        have HN34 : Hid (o.kind ≠ 3 ∧ o.kind ≠ 4) := ⟨hk3, hk4⟩
        clear hk3 hk4 hkind
        have HEQ : Hid (crashI (stepM pb n o.dp).1 A.ps = crashI (stepM pa n o.dp).1 A.ps) := by
          exact ((HX.out.2.2.2.2 HN34.out.1 HN34.out.2).crash A.ps).symm
        go_wp2_with fail
        refine HPBF.out.mono ?_
        rintro e w4 ⟨rfl, Fb', f1, f2, f3, f5, f6, f7, f8⟩
        have u0 : w4.cell? ⟨b, off + i * 10, none⟩ = some (.int .i64 o.kind) := by
          have := f8 0 _ rfl
          exact this
        have HCRA : Hid (Calls Try.prog 12 #[.pointer (some ⟨da, 0, none⟩), .slice A.pa A.ps.length A.pc] w4 fun e w' => ∃ g, e = .returned (.slice (some ⟨g, 0, none⟩) (crashI (stepM pa n o.dp).1 A.ps).length (crashI (stepM pa n o.dp).1 A.ps).length) ∧ Lies w4.heap.size w'.heap.size w' (fun W => ImgI W (some ⟨g, 0, none⟩) (crashI (stepM pa n o.dp).1 A.ps)) ∧ Below w4.heap.size w4 w') := f2.crash (by omega) A.ps A.pa A.pc (HP.out.ps.on f5)
        obtain ⟨b0, b1, b2, b3⟩ := HBX.out w4 f5
        clear b0 b1 b3 HPBF v0 v1 v2 v3 v4 v5 v6 v7 v8 v9
        have HF1 : Hid (DK w4 w1.heap.size db (stepM pb n o.dp).1 (stepM pb n o.dp).2.1 (64 + 4098 * (i + 1)) Fb' ∧ Below w1.heap.size w1 w4 ∧ Lies wr.heap.size w2.heap.size w4 (fun W => ImgI W (some ⟨cg, 0, none⟩) (crashI pa A.ps)) ∧ Spare wr.heap.size w2.heap.size Fb') := ⟨f1, f5, f6, f7⟩
        clear f1 f2 f3 f5 f6 f7 f8
        go_wp2_with (go_at_call 26; refine (HCY.out _).mono ?_; rintro e w4 ⟨rfl, rfl⟩)
        refine HCRA.out.mono ?_
        rintro e w5 ⟨ag, rfl, haft, hb5⟩
        clear HCRA u0 b2
        obtain ⟨f1, f5, f6, f7⟩ := HF1.out
        have g1 := f1.on hb5
        have g5 := f5.trans (hb5.mono f5.size)
        have hwl := haft
        have hws : Spare w4.heap.size w5.heap.size Fb' := fun k hk => .inl (f1.lt k hk).2
        have hIb := g1.inv
        have hcl : (crashI (stepM pb n o.dp).1 A.ps).length ≤ 64 := (crashI_len hIb A.ps).2
        have hcd : ∀ j, j < (crashI (stepM pb n o.dp).1 A.ps).length → (dtI (crashI (stepM pb n o.dp).1 A.ps) j).length ≤ 1048576 := fun j hj => by have := crashI_dt hIb A.ps j hj; omega
        rw [HEQ.out] at hcl hcd
        obtain ⟨pF, HpF⟩ : ∃ x, Hid ((stepM pb n o.dp).1 = x) := ⟨_, rfl⟩
        have HOFF : Hid (pF.off = true ∧ pF.st = f) := by rw [← HpF.out]; exact ⟨HX.out.2.1, by rw [HX.out.2.2.1, HMOD.out.2.2.2.2.2.2]; exact HC1.out.symm⟩
        rw [HpF.out] at g1 HEQ
        obtain ⟨WI, HWI⟩ : ∃ x, Hid (crashI (stepM pa n o.dp).1 A.ps = x) := ⟨_, rfl⟩
        rw [HWI.out] at HEQ hwl hcl hcd
        obtain ⟨WL, HWL⟩ : ∃ x, Hid (WI.length = x) := ⟨_, rfl⟩
        rw [HWI.out, HWL.out]
        have HCB : Hid (∀ W F2 T2, DK W w1.heap.size db pF (stepM pb n o.dp).2.1 T2 F2 → T2 ≤ 1099511627000 → Below w1.heap.size w1 W → Calls Try.prog 12 #[.pointer (some ⟨db, 0, none⟩), .slice A.pa A.ps.length A.pc] W fun e w' => ∃ g, e = .returned (.slice (some ⟨g, 0, none⟩) WL WL) ∧ ImgI w' (some ⟨g, 0, none⟩) WI ∧ Below W.heap.size W w') := fun W F2 T2 h1 h2 h3 => by
          have := h1.crash h2 A.ps A.pa A.pc (HP.out.ps.on h3)
          rw [HEQ.out, HWL.out] at this
          exact this.mono fun e w' ⟨g, he, hl, hb'⟩ => ⟨g, he, hl.now, hb'⟩
        have HIM : Hid (∀ W a c', ImgI W a WI → ImgI W (some ⟨ag, 0, none⟩) WI → Calls Try.prog 16 #[.slice a WL c', .slice (some ⟨ag, 0, none⟩) WL WL] W fun e w' => e = .returned (.bool true) ∧ Below W.heap.size W w') := fun W a c' h1 h2 => by
          have := image_is c' WL h1 h2 (by omega) hcd
          rw [HWL.out] at this
          exact this.mono fun e w' ⟨he, m, hm⟩ => ⟨he, by rw [hm]; exact below_drewN (Below.refl _ _) m⟩
        have HRD : Hid (Calls Try.prog 28 #[.pointer (some ⟨db, 0, none⟩), .string ⟨#[97]⟩] w5 fun e w' => ∃ xa xn xc, e = .returned (.tuple #[.slice xa xn xc, .int .i64 45]) ∧ Below w5.heap.size w5 w') := by
          have hr : readM pF ⟨#[97]⟩ = ([], 45) := by
            have hf : findM pF.off pF.seen ⟨#[97]⟩ = (none, 45) := by unfold findM; rw [HOFF.out.1]; rfl
            unfold readM; rw [hf]
          have := g1.read (by omega) ⟨#[97]⟩
          rw [hr] at this
          exact this.mono fun e w' ⟨v, he, ho, hb'⟩ => by obtain ⟨xa, xc, ev, _⟩ := ho.bl; exact ⟨xa, 0, xc, by rw [he, ev]; rfl, hb'⟩
        have HLS : Hid (∀ W, Below w5.heap.size w5 W → Calls Try.prog 29 #[.pointer (some ⟨db, 0, none⟩)] W fun e w' => e = .returned (.tuple #[.slice none 0 0, .int .i64 45]) ∧ w' = W) := fun W hbW => (g1.on hbW).listOff HOFF.out.1
        have HSI : Hid (∀ W s, Below w5.heap.size w5 W → Calls Try.prog 30 #[.pointer (some ⟨db, 0, none⟩), .string s] W fun e w' => e = .returned (.tuple #[.int .i64 0, .int .i64 45]) ∧ w' = W) := fun W s hbW => (g1.on hbW).sizeOff s HOFF.out.1
        have HG1 : Hid (DK w5 w1.heap.size db pF (stepM pb n o.dp).2.1 (64 + 4098 * (i + 1)) Fb' ∧ Below w1.heap.size w1 w5 ∧ Lies w4.heap.size w5.heap.size w5 (fun W => ImgI W (some ⟨ag, 0, none⟩) WI) ∧ Spare w4.heap.size w5.heap.size Fb') := ⟨g1, g5, hwl, hws⟩
        clear f1 f5 f6 f7 g1 g5 hwl hws hIb hcl hcd haft hb5 HF1 HX HIA HKF HOC HE HMOD HpF HCON HFNL HWI HEQ HCY
        go_wp2_with (go_at_call 28; refine HRD.out.mono ?_; rintro e w6 ⟨xa, xn, xc, rfl, hb6⟩)
        refine (HLS.out _ hb6).mono ?_
        rintro e w6 ⟨rfl, rfl⟩
        go_wp2_with fail
        refine (HSI.out _ _ hb6).mono ?_
        rintro e w6 ⟨rfl, rfl⟩
        have HG6 : Hid (DK w6 w1.heap.size db pF (stepM pb n o.dp).2.1 (64 + 4098 * (i + 1)) Fb' ∧ Below w1.heap.size w1 w6 ∧ Lies w4.heap.size w5.heap.size w6 (fun W => ImgI W (some ⟨ag, 0, none⟩) WI)) := ⟨HG1.out.1.on hb6, HG1.out.2.1.trans (hb6.mono HG1.out.2.1.size), HG1.out.2.2.1.on hb6⟩
        have HCB6 : Hid _ := HCB.out w6 Fb' _ HG6.out.1 (by omega) HG6.out.2.1
        obtain ⟨b0, b1, b2, b3⟩ := HBX.out w6 HG6.out.2.1
        clear b0 b1 b3 HRD HLS HSI hb6
        go_wp2_with (go_at_call 15; refine (HNUM.out _ _).mono ?_; rintro e w6 ⟨rfl, rfl⟩)
        refine Calls.mono HCB6.out ?_
        rintro e w7 ⟨dg, rfl, hi7, hb7⟩
        have HIM7 : Hid _ := HIM.out w7 _ WL hi7 ((HG6.out.2.2.on hb7).now)
        clear HCB6 b2 hi7
        go_wp2_with fail
        refine Calls.mono HIM7.out ?_
        rintro e w8 ⟨rfl, hb8⟩
        have hb68 := hb7.trans (hb8.mono hb7.size)
        have HB18 : Hid (Below w1.heap.size w1 w8) := HG6.out.2.1.trans (hb68.mono HG6.out.2.1.size)
        have HD8 : Hid (DK w8 w1.heap.size db pF (stepM pb n o.dp).2.1 (64 + 4098 * (i + 1)) Fb') := HG6.out.1.on hb68
        have HL8 : Hid (Lies w4.heap.size w5.heap.size w8 (fun W => ImgI W (some ⟨ag, 0, none⟩) WI)) := HG6.out.2.2.on hb68
        obtain ⟨b0, b1, b2, b3⟩ := HBX.out w8 HB18.out
        have HFW : Hid (Calls Try.prog 10 #[.slice A.ma A.more.length A.mc] w8 fun e w' => ∃ va vc, e = .returned (.slice va (fewL A.more).length vc) ∧ Below w8.heap.size w8 w' ∧ Calls Try.prog 31 #[.pointer (some ⟨db, 0, none⟩), .slice va (fewL A.more).length vc] w' fun e w2 => e = .returned (.bool true) ∧ ∃ F2, DK w2 w1.heap.size db pF (stepM pb n o.dp).2.1 (64 + 4098 * (i + 1) + 900000) F2 ∧ Below w1.heap.size w1 w2 ∧ ImgI w2 (some ⟨ag, 0, none⟩) WI) := (few_run A.ma A.mc A.more w8 (HP.out.more.on HB18.out) HP.out.mok).mono fun e w' ⟨va, vc, he, hl, hb'⟩ => by
          refine ⟨va, vc, he, hb', ?_⟩
          have hD9 := HD8.out.on hb'
          have hB9 := HB18.out.trans (hb'.mono HB18.out.size)
          refine (gone_is hD9 HOFF.out.1 hB9 (by omega) vc (few_len A.more) hl (fun k hk => .inl (HD8.out.lt k hk).2) (fun j o' ho' => ?_)).mono fun e w2 ⟨he2, F2, h1, h2, h3⟩ => ⟨he2, F2, h1, h3, ((HL8.out.on hb').mv HG1.out.2.2.2 h2).1.now⟩
          have hm := List.mem_of_getElem? ho'
          have hq := few_kind hm
          unfold fewO at hq
          simp only [Bool.and_eq_true, decide_eq_true_eq] at hq
          exact ⟨hq, HP.out.mok.few hm⟩
        obtain ⟨ML, HML⟩ : ∃ x, Hid ((fewL A.more).length = x) := ⟨_, rfl⟩
        rw [HML.out] at HFW
        clear b0 b1 b2 HIM7 hb7 hb8 hb68 HG6
        go_wp2_with fail
        refine HFW.out.mono ?_
        rintro e w9 ⟨va, vc, rfl, hb9, hgo⟩
        have HGO : Hid (Calls Try.prog 31 #[.pointer (some ⟨db, 0, none⟩), .slice va ML vc] w9 fun e w2 => e = .returned (.bool true) ∧ ∃ F2, DK w2 w1.heap.size db pF (stepM pb n o.dp).2.1 (64 + 4098 * (i + 1) + 900000) F2 ∧ Below w1.heap.size w1 w2 ∧ ImgI w2 (some ⟨ag, 0, none⟩) WI) := hgo
        clear HFW hgo b3
        go_wp2_with fail
        refine HGO.out.mono ?_
        rintro e w10 ⟨rfl, F10, hD10, hB10, hi10⟩
        have HCB10 : Hid _ := HCB.out w10 F10 _ hD10 (by omega) hB10
        have HSTR : Hid (∀ W, Below w10.heap.size w10 W → Calls Try.prog 27 #[.pointer (some ⟨db, 0, none⟩)] W fun e w' => e = .returned (.int .i64 (f : Nat)) ∧ w' = W) := fun W hbW => by
          have := (hD10.on hbW).strokes
          rw [HOFF.out.2] at this
          exact this
        have HI10 : Hid (ImgI w10 (some ⟨ag, 0, none⟩) WI) := hi10
        have HE10 : Hid (∀ W, Below w10.heap.size w10 W → Below w.heap.size w W) := fun W hbW => HEND.out W (hB10.trans (hbW.mono hB10.size))
        obtain ⟨b0, b1, b2, b3⟩ := HBX.out w10 hB10
        clear b0 b1 b3 HGO hD10 hB10 hi10 hb9
        go_wp2_with fail
        refine Calls.mono HCB10.out ?_
        rintro e w11 ⟨eg, rfl, hi11, hb11⟩
        have HIM11 : Hid _ := HIM.out w11 _ WL hi11 (HI10.out.on hb11)
        clear HCB10 b2 hi11
        go_wp2_with fail
        refine Calls.mono HIM11.out ?_
        rintro e w12 ⟨rfl, hb12⟩
        have hb1012 := hb11.trans (hb12.mono hb11.size)
        clear HIM11 HIM HCB
        go_wp2_with fail
        refine (HSTR.out w12 hb1012).mono ?_
        rintro e w12 ⟨rfl, rfl⟩
        go_wp2_with fail
        go_ret
        exact ⟨rfl, HE10.out _ hb1012⟩
      · obtain ⟨e1, e2, e3, e4, e5, e6, e7, e8, e9, e10⟩ := HCON.out hfin
        obtain ⟨c', HC'⟩ : ∃ c', Hid (c' = (stepM pa n o.dp).1.st) := ⟨_, rfl⟩
        have hst2 : (stepM pb n o.dp).1.st = (stepM pa n o.dp).1.st := by
          by_cases q : E = 0
          · rw [(e6 q).1, (e6 q).2]
          · rw [(e7 q).1, (e7 q).2]
        have HPB : Hid (Calls Try.prog 9 #[.pointer (some ⟨db, 0, none⟩), .agg #[.int .i64 o.kind, .int .i64 o.on, .int .i64 o.n, .string o.name, .string o.tt, .slice o.ba o.b.length o.bc, .int .i64 o.p0, .int .i64 o.p1, .int .i64 o.p2, .slice o.pa o.pn o.pc]] w3 fun e w' => e = .returned (.int .i64 (E : Nat)) ∧ (∀ (j : Nat) (v : Value), o.cells[j]? = some v → w'.cell? ⟨b, off + i * 10 + j, none⟩ = some v) ∧ OffSt w1 da db lo hi (some ⟨b, off, none⟩) L g0 f (i + 1) c' w') := by
          obtain ⟨a5, a6, a7, a8, a9, a12, _⟩ := HMOD.out
          obtain ⟨k1, k2⟩ := HKF.out w3 Fb d7 (fun k hk => (d2.lt k hk).1) d4 d6
          refine (play_free d2 d7 (by omega) o k1 hl4 k2).mono fun e w' ⟨he, Fb', hD', hM, hb'⟩ => ⟨by rw [he, e1], HOC.out w' (d4.mv d6 hM).1, ⟨⟨Fa', Fb', _, _, _, (d1.other d3 hM).1, ?_, (d1.other d3 hM).2, e3, step_calm a5 e8 d1.inv, by rw [e8.pf]; exact a6, by rw [e9.pf]; exact a7, e10, by rw [e9.po]; exact a8, by rw [e9.ah]; exact a9, HC'.out.symm, by rw [hst2]; exact HC'.out.symm, by rw [(step_off pa n o.dp).2]; exact a12, (d4.mv d6 hM).1, d5, (d4.mv d6 hM).2⟩, hb'⟩⟩
          rw [← e2]
          exact hD'.mono (by omega)
        by_cases hE0 : E = 0
        · subst hE0
          have hlt1 : C1 < f := by have := HC1.out; omega
          have HCC : Hid (c' = c + 1) := by show c' = c + 1; rw [HC'.out, (e6 rfl).1]
          have HCY : Hid (∀ W, Calls Try.prog 26 #[.int .i64 0] W fun r w' => r = .returned (.bool true) ∧ w' = W) := fun W => counted_yes 0 (by omega) W
          have n1 : (C1 : Int) < (f : Int) := by omega
          have n2 : ((C1 : Int) == (f : Int)) = false := beq_eq_false_iff_ne.2 (by omega)
          have HLT : Hid (C1 < f) := hlt1
          clear e1 e2 e3 e4 e5 e6 e7 e8 e9 e10 hst2 d1 d2 d3 d4 d5 d6 d7 d8 d9 HCON HFNL HMOD HIA HKF HOC HE hlt1 hfin HBX HP
          by_cases hk3 : o.kind = 3
          · have HK : Hid (o.kind = 3) := hk3
            clear hk3 hkind
            go_wp2_with fail
            refine HPB.out.mono ?_
            rintro e w4 ⟨rfl, hc4, hS4⟩
            have u0 : w4.cell? ⟨b, off + i * 10, none⟩ = some (.int .i64 3) := by
              have := hc4 0 _ rfl
              rw [HK.out] at this
              exact this
            clear HPB hc4 v0 v1 v2 v3 v4 v5 v6 v7 v8 v9
            go_wp2_with (go_at_call 26; refine (HCY.out _).mono ?_; rintro e w4 ⟨rfl, rfl⟩)
            go_roundg (N - (i + 1))
            case measure => go_light; omega
            case rel => go_light; exact ⟨i + 1, c', by omega, by have := HCC.out; omega, by have := HCC.out; have := HLT.out; have := HC1.out; omega, rfl, by simp, by have e1 := HCC.out; have e2 := HC1.out; rw [e1, ← e2], hS4⟩
          by_cases hk4 : o.kind = 4
          · have HK : Hid (o.kind = 4) := hk4
            clear hk3 hk4 hkind
            go_wp2_with fail
            refine HPB.out.mono ?_
            rintro e w4 ⟨rfl, hc4, hS4⟩
            have u0 : w4.cell? ⟨b, off + i * 10, none⟩ = some (.int .i64 4) := by
              have := hc4 0 _ rfl
              rw [HK.out] at this
              exact this
            clear HPB hc4 v0 v1 v2 v3 v4 v5 v6 v7 v8 v9
            go_wp2_with (go_at_call 26; refine (HCY.out _).mono ?_; rintro e w4 ⟨rfl, rfl⟩)
            go_roundg (N - (i + 1))
            case measure => go_light; omega
            case rel => go_light; exact ⟨i + 1, c', by omega, by have := HCC.out; omega, by have := HCC.out; have := HLT.out; have := HC1.out; omega, rfl, by simp, by have e1 := HCC.out; have e2 := HC1.out; rw [e1, ← e2], hS4⟩
          have kb3 : (o.kind == 3) = false := beq_eq_false_iff_ne.2 hk3
          have kb4 : (o.kind == 4) = false := beq_eq_false_iff_ne.2 hk4
          have HN34 : Hid (o.kind ≠ 3 ∧ o.kind ≠ 4) := ⟨hk3, hk4⟩
          clear hk3 hk4 hkind
          go_wp2_with fail
          refine HPB.out.mono ?_
          rintro e w4 ⟨rfl, hc4, hS4⟩
          have u0 : w4.cell? ⟨b, off + i * 10, none⟩ = some (.int .i64 o.kind) := by
            have := hc4 0 _ rfl
            exact this
          clear HPB hc4 v0 v1 v2 v3 v4 v5 v6 v7 v8 v9
          go_wp2_with (go_at_call 26; refine (HCY.out _).mono ?_; rintro e w4 ⟨rfl, rfl⟩)
          go_roundg (N - (i + 1))
          case measure => go_light; omega
          case rel => go_light; exact ⟨i + 1, c', by omega, by have := HCC.out; omega, by have := HCC.out; have := HLT.out; have := HC1.out; omega, rfl, by simp, by have e1 := HCC.out; have e2 := HC1.out; rw [e1, ← e2], hS4⟩
        · have HCC : Hid (c' = c) := by show c' = c; rw [HC'.out, (e7 hE0).1]
          have HCY : Hid (∀ W, Calls Try.prog 26 #[.int .i64 (E : Nat)] W fun r w' => r = .returned (.bool false) ∧ w' = W) := fun W => counted_no E hE0 e4 e5 W
          have n1 : (c : Int) < (f : Int) := by omega
          have n2 : ((c : Int) == (f : Int)) = false := beq_eq_false_iff_ne.2 (by omega)
          clear e1 e2 e3 e4 e5 e6 e7 e8 e9 e10 hst2 d1 d2 d3 d4 d5 d6 d7 d8 d9 HCON HFNL HMOD HIA HKF HOC HE hfin hE0 HBX HP
          by_cases hk3 : o.kind = 3
          · have HK : Hid (o.kind = 3) := hk3
            clear hk3 hkind
            go_wp2_with fail
            refine HPB.out.mono ?_
            rintro e w4 ⟨rfl, hc4, hS4⟩
            have u0 : w4.cell? ⟨b, off + i * 10, none⟩ = some (.int .i64 3) := by
              have := hc4 0 _ rfl
              rw [HK.out] at this
              exact this
            clear HPB hc4 v0 v1 v2 v3 v4 v5 v6 v7 v8 v9
            go_wp2_with (go_at_call 26; refine (HCY.out _).mono ?_; rintro e w4 ⟨rfl, rfl⟩)
            go_roundg (N - (i + 1))
            case measure => go_light; omega
            case rel => go_light; exact ⟨i + 1, c', by omega, by have := HCC.out; omega, by have := HCC.out; omega, rfl, by simp, by have e1 := HCC.out; rw [e1], hS4⟩
          by_cases hk4 : o.kind = 4
          · have HK : Hid (o.kind = 4) := hk4
            clear hk3 hk4 hkind
            go_wp2_with fail
            refine HPB.out.mono ?_
            rintro e w4 ⟨rfl, hc4, hS4⟩
            have u0 : w4.cell? ⟨b, off + i * 10, none⟩ = some (.int .i64 4) := by
              have := hc4 0 _ rfl
              rw [HK.out] at this
              exact this
            clear HPB hc4 v0 v1 v2 v3 v4 v5 v6 v7 v8 v9
            go_wp2_with (go_at_call 26; refine (HCY.out _).mono ?_; rintro e w4 ⟨rfl, rfl⟩)
            go_roundg (N - (i + 1))
            case measure => go_light; omega
            case rel => go_light; exact ⟨i + 1, c', by omega, by have := HCC.out; omega, by have := HCC.out; omega, rfl, by simp, by have e1 := HCC.out; rw [e1], hS4⟩
          have kb3 : (o.kind == 3) = false := beq_eq_false_iff_ne.2 hk3
          have kb4 : (o.kind == 4) = false := beq_eq_false_iff_ne.2 hk4
          have HN34 : Hid (o.kind ≠ 3 ∧ o.kind ≠ 4) := ⟨hk3, hk4⟩
          clear hk3 hk4 hkind
          go_wp2_with fail
          refine HPB.out.mono ?_
          rintro e w4 ⟨rfl, hc4, hS4⟩
          have u0 : w4.cell? ⟨b, off + i * 10, none⟩ = some (.int .i64 o.kind) := by
            have := hc4 0 _ rfl
            exact this
          clear HPB hc4 v0 v1 v2 v3 v4 v5 v6 v7 v8 v9
          go_wp2_with (go_at_call 26; refine (HCY.out _).mono ?_; rintro e w4 ⟨rfl, rfl⟩)
          go_roundg (N - (i + 1))
          case measure => go_light; omega
          case rel => go_light; exact ⟨i + 1, c', by omega, by have := HCC.out; omega, by have := HCC.out; omega, rfl, by simp, by have e1 := HCC.out; rw [e1], hS4⟩
    · obtain rfl : i = N := by omega
      have hz : ¬ ((i : Int) < (i : Int)) := by omega
      have hcf' : (c : Int) < (f : Int) := by omega
      obtain ⟨⟨Fa, Fb, pa, pb, n, hDa, hDb, hFF, hsim, hca, hpa, hpf, hoff, hpo, hah, hst, hstb, hro, hL, hSa, hSb⟩, hb⟩ := hS
      obtain ⟨hll, hld⟩ := lookI_dt hDa.inv
      have hcl : (crashI pa A.ps).length ≤ 64 := (crashI_len hDa.inv A.ps).2
      have hcd : ∀ j, j < (crashI pa A.ps).length → (dtI (crashI pa A.ps) j).length ≤ 1048576 := fun j hj => by have := crashI_dt hDa.inv A.ps j hj; omega
      have HSEA : Hid (∀ W, Below wr.heap.size wr W → Calls Try.prog 11 #[.pointer (some ⟨da, 0, none⟩)] W fun e w' => ∃ a c, e = .returned (.slice a (lookI pa).length c) ∧ Below wr.heap.size wr w' ∧ Below W.heap.size W w' ∧ ImgI w' a (lookI pa)) := fun W hbW => (seen_is (hDa.on hbW) (by omega)).mono fun e w' ⟨a, c, he, hl, hb'⟩ => ⟨a, c, he, hbW.trans (hb'.mono hbW.size), hb', hl.now⟩
      have HSEB : Hid (∀ W, Below wr.heap.size wr W → Calls Try.prog 11 #[.pointer (some ⟨db, 0, none⟩)] W fun e w' => ∃ a c, e = .returned (.slice a (lookI pa).length c) ∧ Below wr.heap.size wr w' ∧ Below W.heap.size W w' ∧ ImgI w' a (lookI pa)) := fun W hbW => by
        have := seen_is (hDb.on hbW) (by omega)
        rw [← hsim.look] at this
        exact this.mono fun e w' ⟨a, c, he, hl, hb'⟩ => ⟨a, c, he, hbW.trans (hb'.mono hbW.size), hb', hl.now⟩
      have HCRA : Hid (∀ W, Below wr.heap.size wr W → Calls Try.prog 12 #[.pointer (some ⟨da, 0, none⟩), .slice A.pa A.ps.length A.pc] W fun e w' => ∃ g, e = .returned (.slice (some ⟨g, 0, none⟩) (crashI pa A.ps).length (crashI pa A.ps).length) ∧ Below wr.heap.size wr w' ∧ Below W.heap.size W w' ∧ ImgI w' (some ⟨g, 0, none⟩) (crashI pa A.ps)) := fun W hbW => ((hDa.on hbW).crash (by omega) A.ps A.pa A.pc (HP.out.ps.on (hb.trans (hbW.mono hb.size)))).mono fun e w' ⟨g, he, hl, hb'⟩ => ⟨g, he, hbW.trans (hb'.mono hbW.size), hb', hl.now⟩
      have HCRB : Hid (∀ W, Below wr.heap.size wr W → Calls Try.prog 12 #[.pointer (some ⟨db, 0, none⟩), .slice A.pa A.ps.length A.pc] W fun e w' => ∃ g, e = .returned (.slice (some ⟨g, 0, none⟩) (crashI pa A.ps).length (crashI pa A.ps).length) ∧ Below wr.heap.size wr w' ∧ Below W.heap.size W w' ∧ ImgI w' (some ⟨g, 0, none⟩) (crashI pa A.ps)) := fun W hbW => by
        have := (hDb.on hbW).crash (by omega) A.ps A.pa A.pc (HP.out.ps.on (hb.trans (hbW.mono hb.size)))
        rw [← hsim.crash] at this
        exact this.mono fun e w' ⟨g, he, hl, hb'⟩ => ⟨g, he, hbW.trans (hb'.mono hbW.size), hb', hl.now⟩
      obtain ⟨LI, HLI⟩ : ∃ I, Hid (lookI pa = I) := ⟨_, rfl⟩
      obtain ⟨CI, HCI⟩ : ∃ I, Hid (crashI pa A.ps = I) := ⟨_, rfl⟩
      have HIM : Hid (∀ W a b c d, ImgI W a LI → ImgI W b LI → Below wr.heap.size wr W → Calls Try.prog 16 #[.slice a LI.length c, .slice b LI.length d] W fun e w' => e = .returned (.bool true) ∧ Below wr.heap.size wr w' ∧ Below W.heap.size W w') := fun W a b c d h1 h2 hbW => by
        refine (image_is c d h1 h2 (by rw [← HLI.out]; omega) (fun j hj => by rw [← HLI.out] at hj ⊢; have := hld j hj; omega)).mono fun e w' ⟨he, m, hm⟩ => ⟨he, by rw [hm]; exact below_drewN hbW m, by rw [hm]; exact below_drewN (Below.refl _ _) m⟩
      have HIC : Hid (∀ W a b c d, ImgI W a CI → ImgI W b CI → Below wr.heap.size wr W → Calls Try.prog 16 #[.slice a CI.length c, .slice b CI.length d] W fun e w' => e = .returned (.bool true) ∧ Below wr.heap.size wr w' ∧ Below W.heap.size W w') := fun W a b c d h1 h2 hbW => by
        refine (image_is c d h1 h2 (by rw [← HCI.out]; omega) (fun j hj => by rw [← HCI.out] at hj ⊢; exact hcd j hj)).mono fun e w' ⟨he, m, hm⟩ => ⟨he, by rw [hm]; exact below_drewN hbW m, by rw [hm]; exact below_drewN (Below.refl _ _) m⟩
      rw [HLI.out] at HSEA HSEB
      rw [HCI.out] at HCRA HCRB
      have HB2 : Hid (∀ W, Below wr.heap.size wr W → W.cell? ⟨w.heap.size, 2, none⟩ = some (.slice A.pa A.ps.length A.pc)) := fun W hbW => (HBX.out W (hb.trans (hbW.mono hb.size))).2.2.1
      have HEN : Hid (∀ W, Below wr.heap.size wr W → Below w.heap.size w W) := fun W hbW => HEND.out W (hb.trans (hbW.mono hb.size))
      clear hDa hDb hFF hsim hca hpa hpf hoff hpo hah hst hstb hro hL hSa hSb hb hll hld hcl hcd HLI HCI HBX HEND HP HOKL HLN
      obtain ⟨ll, hll⟩ : ∃ n, LI.length = n := ⟨_, rfl⟩
      obtain ⟨cl, hcl⟩ : ∃ n, CI.length = n := ⟨_, rfl⟩
      rw [hll] at HSEA HSEB HIM
      rw [hcl] at HCRA HCRB HIC
      have hb0 : Below wr.heap.size wr wr := Below.refl _ _
      have hb0d : Below wr.heap.size wr wr.drew := (Below.refl _ _).drew
      have b2 := HB2.out wr hb0
      clear hll hcl
      go_upto_region 28 with fail
      go_region_held3 (fun W => W.cell? ⟨w.heap.size, 2, none⟩ = some (.slice A.pa A.ps.length A.pc))
        (first | exact b2 | exact HB2.out _ hS1 | exact HB2.out _ hS2 | exact HB2.out _ hS3 | exact HB2.out _ hS4 | exact HB2.out _ hS5 | exact HB2.out _ hS6)
        (first
          | (go_at_call 12; with_reducible refine (HCRA.out _ (by first | exact hb0 | exact hb0d | exact hS5)).mono ?_; rintro e wS4 ⟨cg4, rfl, hS4, hT4, hi4⟩)
          | (go_at_call 12; with_reducible refine (HCRB.out _ (by first | exact hS4 | exact hb0 | exact hb0d)).mono ?_; rintro e wS5 ⟨cg5, rfl, hS5, hT5, hi5⟩)
          | (go_at_call 16; with_reducible refine (HIC.out _ _ _ _ _ (by first | exact hi4 | exact hi4.on hT5) (by first | exact hi5 | exact hi5.on hT4) (by first | exact hS5 | exact hS4)).mono ?_; rintro e wS6 ⟨rfl, hS6, hT6⟩)
          | (go_at_call 11; with_reducible refine (HSEA.out _ (by first | exact hS6 | exact hS2)).mono ?_; rintro e wS1 ⟨sa1, sc1, rfl, hS1, hT1, hi1⟩)
          | (go_at_call 11; with_reducible refine (HSEB.out _ (by first | exact hS1 | exact hS6)).mono ?_; rintro e wS2 ⟨sa2, sc2, rfl, hS2, hT2, hi2⟩)
          | (go_at_call 16; with_reducible refine (HIM.out _ _ _ _ _ (by first | exact hi1 | exact hi1.on hT2) (by first | exact hi2 | exact hi2.on hT1) (by first | exact hS2 | exact hS1)).mono ?_; rintro e wS3 ⟨rfl, hS3, hT3⟩))
      all_goals
        go_wp2_with fail
        go_ret
        exact ⟨rfl, HEN.out _ hS3⟩
end Go.Proofs.Ytbnlgohaaadgeaa
