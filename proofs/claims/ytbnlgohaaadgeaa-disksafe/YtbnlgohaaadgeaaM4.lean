/- Own texts, joined: E14, E15, E16, E17, E18, E19, E20, E21. -/
import Derived.Test.YtbnlgohaaadgeaaM3
import Derived.Maps.RangeWalk

/- Package disk: names.after, for any number of moves. -/
namespace Go.Proofs.Ytbnlgohaaadgeaa
open Go.RowKit Go.Maps Go.Sort
set_option maxRecDepth 100000
set_option maxRecDepth 100000

theorem movesOn_step (D : DataW Nat) {ms : List Mov} {k i : Nat} {m : Mov} (hk : k ≤ ms.length) (hi : i < k) (h : ms[i]? = some m) : movesOn D ((ms.take k).drop i) = movesOn (m.on D) ((ms.take k).drop (i + 1)) := by
  have hlt : i < (ms.take k).length := by rw [List.length_take]; omega
  have e := List.drop_eq_getElem_cons hlt
  have e2 : (ms.take k)[i] = m := by
    have := List.getElem?_eq_getElem hlt
    rw [List.getElem?_take, if_pos hi, h] at this
    exact (Option.some.inj this).symm
  rw [e, e2]
  rfl

set_option maxHeartbeats 3200000 in
theorem namesAfterK {w : World} {B db sb n N : Nat} {t : TypeId} {F : Nat → Value} {mv : Value} {ms : List Mov} {D : DataW Nat} (hr : w.rowIs db t n F) (hn : 3 < n) (h1 : F 1 = .map (some sb)) (h3 : F 3 = mv) (hmv : w.ownsRow B 103 3 mv ms.length (mvCells ms)) (hD : w.ownsMap Try.prog 9 Rf sb N D) (hN : N + ms.length ≤ 1099511627776) (hok : ∀ (i : Nat) (m : Mov), ms[i]? = some m → m.ok) (k : Nat) (hk : k ≤ ms.length) :
    Calls Try.prog 38 #[.pointer (some ⟨db, 1, none⟩), .int .i64 k] w fun e w' => ∃ cb, e = .returned (.map (some cb)) ∧ w'.ownsMap Try.prog 9 Rf cb (N + k) (movesOn D (ms.take k)) ∧ w.heap.size ≤ cb ∧ Below w.heap.size w w' := by
  have c1 : w.cell? ⟨db, 1, none⟩ = some (.map (some sb)) := h1 ▸ hr.cell (i := 1) (by omega)
  have c3 : w.cell? ⟨db, 3, none⟩ = some mv := h3 ▸ hr.cell (i := 3) hn
  have hcl := AnyW.maps_Clone_owns cloneL 9 Rf sb N D w hD
  have HC : Hid (Calls Try.prog 61 #[.map (some sb)] w fun e w' => e = .returned (.map (some w.heap.size)) ∧ w'.ownsMap Try.prog 9 Rf w.heap.size N D ∧ w'.ownsMap Try.prog 9 Rf sb N D ∧ Below w.heap.size w w') := hcl
  have HM : Hid (w.ownsRow B 103 3 mv ms.length (mvCells ms)) := hmv
  have HK : Hid (∀ (i : Nat) (m : Mov), ms[i]? = some m → m.ok) := hok
  rcases hmv.2 with ⟨emv, h0⟩ | ⟨g, mvc, cur, emv, _, _, hmc, _⟩
  · have hk0 : k = 0 := by omega
    have e0 : movesOn D (ms.take k) = D := by rw [hk0]; rfl
    rw [e0]
    subst hk0 emv
    clear hcl hr hmv hok h1 h3 HM HK hk e0
    go_enter Try.func38, Try.ntmps38
    go_wp2_with fail
    refine HC.out.mono ?_
    rintro e w1 ⟨rfl, hm, _, hb⟩
    have d3 := cel_on hb c3
    clear HC c1 c3
    go_wp2_with fail
    go_loopg [20] 0 (fun q s20 wx => q = 0 ∧ s20 = .int .i64 0 ∧ w1 = wx)
    case atStart => exact ⟨rfl, rfl, rfl⟩
    case round =>
      obtain ⟨rfl, rfl, rfl⟩ := hrel
      go_wp2_with fail
      go_ret
      exact ⟨w.heap.size, rfl, hm, Nat.le_refl _, hb⟩
  · subst emv
    clear hcl hr hmv hok h1 h3
    have hk1 : (0 : Int) ≤ (k : Int) := by omega
    have hk2 : (k : Int) ≤ (mvc : Int) := by omega
    go_enter Try.func38, Try.ntmps38
    go_wp2_with fail
    refine HC.out.mono ?_
    rintro e w1 ⟨rfl, hm, _, hb⟩
    have d3 := cel_on hb c3
    clear HC c1 c3
    go_wp2_with fail
    go_loopg [20] k (fun q s20 wx => ∃ (i : Nat) (D' : DataW Nat), i ≤ k ∧ q = k - i ∧ s20 = .int .i64 i ∧ movesOn D' ((ms.take k).drop i) = movesOn D (ms.take k) ∧ wx.ownsMap Try.prog 9 Rf w.heap.size (N + i) D' ∧ Below w.heap.size w wx)
    case atStart =>
      exact ⟨0, D, Nat.zero_le _, rfl, rfl, rfl, hm, hb⟩
    case round =>
      obtain ⟨i, D', hi, rfl, rfl, haf, hD', hbx⟩ := hrel
      clear d3 hm hb
      by_cases hlt : i < k
      · have hwi : IntKind.i64.wrap ((i : Int) + 1) = (i : Int) + 1 := by rw [IntKind.wrap_i64]; omega
        have hz : (i : Int) < (k : Int) := by omega
        have hilt : i < ms.length := by omega
        obtain ⟨m, hm⟩ : ∃ m, ms[i]? = some m := ⟨_, List.getElem?_eq_getElem hilt⟩
        rw [movesOn_step D' hk hlt hm] at haf
        have HAF : Hid (movesOn (m.on D') ((ms.take k).drop (i + 1)) = movesOn D (ms.take k)) := haf
        have hmx : wr.ownsRow B 103 3 (.slice (some ⟨g, 0, none⟩) ms.length mvc) ms.length (mvCells ms) := rows_keep HM.out (fun q e => hbx.block q (rows_lt HM.out q e).2)
        obtain ⟨Fr, hFr, hle, hat⟩ := rows_row hmx
        obtain ⟨q0, q1, q2⟩ := mvCells_at ms i m hm
        have hl3 : ms.length * 3 ≤ mvc * 3 := Nat.mul_le_mul_right 3 hle
        obtain ⟨f, fr, tt⟩ := m
        obtain ⟨pv, HP⟩ : ∃ pv, Hid (pv = f.map (fun b => (⟨b, 0, none⟩ : Addr))) := ⟨_, rfl⟩
        have x0 : wr.cell? ⟨g, i * 3, none⟩ = some (.pointer pv) := by rw [hFr.cell (i := i * 3) (by omega), ← hat _ (by omega), q0, HP.out]
        have x1 : wr.cell? ⟨g, i * 3 + 1, none⟩ = some (.string fr) := by rw [hFr.cell (i := i * 3 + 1) (by omega), ← hat _ (by omega), q1]
        have x2 : wr.cell? ⟨g, i * 3 + 2, none⟩ = some (.string tt) := by rw [hFr.cell (i := i * 3 + 2) (by omega), ← hat _ (by omega), q2]
        obtain ⟨W4, HW4⟩ : ∃ W, Hid (wr.alloc (.cells #[.pointer pv, .string fr, .string tt] 103) = W) := ⟨_, rfl⟩
        have bq : Below wr.heap.size wr W4 := by rw [← HW4.out]; exact (Below.refl _ _).alloc (Nat.le_refl _) _
        have n0 : W4.cell? ⟨wr.heap.size, 0, none⟩ = some (.pointer pv) := by rw [← HW4.out]; exact World.cell?_alloc_at (w := wr) _ _ _ 0 rfl
        have n1 : W4.cell? ⟨wr.heap.size, 1, none⟩ = some (.string fr) := by rw [← HW4.out]; exact World.cell?_alloc_at (w := wr) _ _ _ 1 rfl
        have n2 : W4.cell? ⟨wr.heap.size, 2, none⟩ = some (.string tt) := by rw [← HW4.out]; exact World.cell?_alloc_at (w := wr) _ _ _ 2 rfl
        have HON : Hid (Calls Try.prog 62 #[.agg #[.pointer pv, .string fr, .string tt], .map (some w.heap.size)] W4 fun e w' => e = .returned (.tuple #[]) ∧ w'.ownsMap Try.prog 9 Rf w.heap.size (N + (i + 1)) ((Mov.mk f fr tt).on D') ∧ Below w.heap.size w w') := by
          have q := onto_names (map_on hD' bq) (by omega) (Mov.mk f fr tt) (HK.out i _ hm)
          have ev : (Mov.mk f fr tt).v = .agg #[.pointer pv, .string fr, .string tt] := by rw [HP.out]; rfl
          rw [ev] at q
          refine q.mono fun e w' ⟨he, h2, hM'⟩ => ⟨he, h2, ?_⟩
          exact Mv.below (hbx.trans (bq.mono hbx.size)) (Nat.le_trans hbx.size bq.size) (fun x e => Nat.le_of_eq e.symm) hM'
        clear haf hm hat hFr q0 q1 q2 hle hl3 hD' hbx hmx bq HP
        generalize (Mov.mk f fr tt).on D' = D2 at *
        go_upto_region 5 with fail
        rw [HW4.out]
        clear x0 x1 x2
        go_wp2_with fail
        refine HON.out.mono ?_
        rintro e w6 ⟨rfl, hD6, hb6⟩
        go_wp2_with fail
        go_roundg (k - (i + 1))
        case measure => go_light; omega
        case rel => go_light; exact ⟨i + 1, D2, by omega, rfl, by simp, HAF.out, hD6, hb6⟩
      · obtain rfl : i = k := by omega
        have e : (ms.take i).drop i = [] := List.drop_eq_nil_of_le (by rw [List.length_take]; omega)
        rw [e] at haf
        have hz : ¬ ((i : Int) < (i : Int)) := by omega
        have HFN : Hid (wr.ownsMap Try.prog 9 Rf w.heap.size (N + i) (movesOn D (ms.take i))) := by rw [← haf]; exact hD'
        have HB : Hid _ := hbx
        clear haf e hD' hbx HM HK
        go_wp2_with fail
        go_ret
        exact ⟨w.heap.size, rfl, HFN.out, Nat.le_refl _, HB.out⟩
end Go.Proofs.Ytbnlgohaaadgeaa

/- Package disk: hasRoom. -/
namespace Go.Proofs.Ytbnlgohaaadgeaa
open Go.RowKit Go.Maps Go.Sort
set_option maxRecDepth 100000
set_option maxRecDepth 100000

def szD (sz : Nat → Nat) : DataW Nat → Nat
  | .held b => sz b
  | _ => 0
/-- The bytes of the files whose names are still to come. -/
def sumE (sz : Nat → Nat) (left : Lit → Bool) : List (Lit × DataW Nat) → Nat
  | [] => 0
  | p :: es => (if left p.1 then szD sz p.2 else 0) + sumE sz left es
theorem sumE_congr (sz : Nat → Nat) {l l' : Lit → Bool} : ∀ (es : List (Lit × DataW Nat)), (∀ p ∈ es, l p.1 = l' p.1) → sumE sz l es = sumE sz l' es
  | [], _ => rfl
  | p :: es, h => by
    show (if l p.1 then _ else _) + sumE sz l es = (if l' p.1 then _ else _) + sumE sz l' es
    rw [h p (by simp), sumE_congr sz es (fun q hq => h q (by simp [hq]))]
theorem sumE_none (sz : Nat → Nat) {l : Lit → Bool} (h : ∀ k, l k = false) : ∀ es, sumE sz l es = 0
  | [] => rfl
  | p :: es => by
    show (if l p.1 then _ else 0) + sumE sz l es = 0
    rw [h, sumE_none sz h es]; rfl
theorem sumE_strike (sz : Nat → Nat) {left : Lit → Bool} {kl : Lit} (hl : left kl = true) {p : Lit × DataW Nat} : ∀ (es : List (Lit × DataW Nat)), es.Pairwise (fun p q => p.1 ≠ q.1) → es.find? (fun p => p.1.sameKey kl) = some p → sumE sz left es = szD sz p.2 + sumE sz (fun z => left z && !z.sameKey kl) es
  | [], _, h => by simp at h
  | q :: es, hp, h => by
    rw [List.pairwise_cons] at hp
    show (if left q.1 then _ else 0) + sumE sz left es = _ + ((if left q.1 && !q.1.sameKey kl then _ else 0) + sumE sz _ es)
    cases hs : q.1.sameKey kl with
    | true =>
      rw [List.find?_cons, hs] at h
      have h : q = p := by simpa using h
      subst h
      have e := WideAt.sameKey_eq hs
      have c := sumE_congr sz (l := left) (l' := fun z => left z && !z.sameKey kl) es (fun r hr => by
        have : r.1.sameKey kl = false := sameKey_ne (fun e2 => hp.1 r hr (by rw [e, e2]))
        show left r.1 = (left r.1 && !r.1.sameKey kl)
        rw [this]; simp)
      rw [c, e, hl]
      simp
    | false =>
      rw [List.find?_cons, hs] at h
      have q2 := sumE_strike sz hl es hp.2 (by simpa using h)
      rw [q2]
      simp only [Bool.not_false, Bool.and_true]
      omega
def allL (sz : Nat → Nat) (es : List (Lit × DataW Nat)) : Nat := sumE sz (fun _ => true) es
theorem sumE_has (sz : Nat → Nat) {es : List (Lit × DataW Nat)} (h : ∀ p ∈ es, WideAt.IsKeyLit p.1) : sumE sz (has (.map es)) es = allL sz es :=
  sumE_congr sz es (fun p hp => by
    rw [has_eq, List.any_eq_true]
    exact ⟨p, hp, WideAt.sameKey_self (h p hp)⟩)
theorem sumE_le (sz : Nat → Nat) (l : Lit → Bool) : ∀ es, sumE sz l es ≤ allL sz es
  | [] => Nat.le_refl _
  | p :: es => by
    have := sumE_le sz l es
    show (if l p.1 then _ else 0) + sumE sz l es ≤ szD sz p.2 + allL sz es
    split <;> omega
theorem find_of_at {es : List (Lit × DataW Nat)} {kl : Lit} {y : DataW Nat} (h : ∀ zd, (DataW.map es).atKey kl zd = y) : ∃ p, es.find? (fun p => p.1.sameKey kl) = some p ∧ p.2 = y := by
  cases hf : es.find? (fun p => p.1.sameKey kl) with
  | none =>
    have h1 := h .nil
    have h2 := h (.held 0)
    simp only [DataW.atKey, hf] at h1 h2
    rw [← h2] at h1
    cases h1
  | some p =>
    have h1 := h .nil
    simp only [DataW.atKey, hf] at h1
    exact ⟨p, rfl, h1⟩
theorem keyOf_str_inv {key : Value} {kl : Lit} (h : keyOf Try.prog 9 key = some kl) : ∃ x : ByteArray, key = .string x := by
  cases key <;> simp [keyOf, Try.underlying9, mapKey] at h
  exact ⟨_, rfl⟩
theorem Rf_shape {v : Value} {y : DataW Nat × List MemPlace} (h : Rf v = some y) : ∃ c : Option Nat, v = .pointer (c.map (fun b => (⟨b, 0, none⟩ : Addr))) := by
  unfold Rf at h
  split at h
  · exact ⟨none, rfl⟩
  · rename_i b
    exact ⟨some b, rfl⟩
  · cases h
end Go.Proofs.Ytbnlgohaaadgeaa

/- Package disk: hasRoom, walked. -/
namespace Go.Proofs.Ytbnlgohaaadgeaa
open Go.RowKit Go.Maps Go.Sort
set_option maxRecDepth 100000
set_option maxRecDepth 100000

set_option maxHeartbeats 3200000 in
theorem hasRoom_any {w : World} {db nb n N room : Nat} {t : TypeId} {F : Nat → Value} {es : List (Lit × DataW Nat)} (hr : w.rowIs db t n F) (hn : 2 < n) (h0 : F 0 = .int .i64 (room : Nat)) (h2 : F 2 = .map (some nb)) (hD : w.ownsMap Try.prog 9 Rf nb N (.map es)) (sz : Nat → Nat) (hsz : ∀ p ∈ es, ∃ fb, p.2 = .held fb ∧ w.cell? ⟨fb, 2, none⟩ = some (.int .i64 (sz fb : Nat))) (hroom : room ≤ 1099511627776) (hall : allL sz es ≤ 1099511627776) (k : Nat) :
    Calls Try.prog 53 #[.pointer (some ⟨db, 0, none⟩), .int .i64 k] w fun e w' => e = .returned (.bool (decide (k + allL sz es ≤ room))) ∧ Below w.heap.size w w' := by
  have c0 : w.cell? ⟨db, 0, none⟩ = some (.int .i64 (room : Nat)) := h0 ▸ hr.cell (i := 0) (by omega)
  have c2 : w.cell? ⟨db, 2, none⟩ = some (.map (some nb)) := h2 ▸ hr.cell (i := 2) hn
  obtain ⟨es', ees, hpw, hkl⟩ := hD.entries strK
  have ees : es' = es := by injection ees with e; exact e.symm
  subst ees
  have hlt := hD.lt
  have HS : Hid (∀ p ∈ es', ∃ fb, p.2 = .held fb ∧ w.cell? ⟨fb, 2, none⟩ = some (.int .i64 (sz fb : Nat))) := hsz
  have HPW : Hid (es'.Pairwise (fun p q => p.1 ≠ q.1)) := hpw
  have H0 : Hid (sumE sz (has (.map es')) es' = allL sz es') := sumE_has sz hkl
  have HLE : Hid (∀ l, sumE sz l es' ≤ allL sz es') := fun l => sumE_le sz l es'
  clear hr h0 h2 hsz hpw hkl
  go_enter Try.func53, Try.ntmps53
  go_wp2_with (first
    | (at_range; refine wpList_range_own _ rfl _ 74 rfl 9 85 strK Try.underlying74 Rf nb N (.map es') rfl hD ?_; intro w0 hrg0 hg0 hs0; clear hD c0 c2; go_frame)
    | go_in)
  have HB0 : Hid (Below w.heap.size w w0) := ⟨hg0.os, hg0.tape, hg0.output, hg0.size, fun q hq => hg0.block q hq (by simp)⟩
  have HR0 : Hid (w0.ranges Try.prog 9 Rf nb w.heap.size N (.map es') (has (.map es')) (size (DataW.map es'))) := hrg0
  clear hrg0 hg0 hs0
  go_loopw [5] (fun s5 wr => ∃ (left : Lit → Bool) (cnt : Nat) (v : Int), wr.ranges Try.prog 9 Rf nb w.heap.size N (.map es') left cnt ∧ s5 = .int .i64 v ∧ v = (room : Int) - (allL sz es' : Nat) + (sumE sz left es' : Nat) ∧ Below w.heap.size w wr)
    (fun _ wr => wr.rangeLeft nb w.heap.size)
  case atStart => exact ⟨_, _, _, HR0.out, rfl, by rw [H0.out]; omega, HB0.out⟩
  case round =>
    obtain ⟨left, cnt, v, hrg, rfl, hv, hb⟩ := hrel
    clear HR0 HB0
    have HV : Hid (v = (room : Int) - (allL sz es' : Nat) + (sumE sz left es' : Nat)) := hv
    have HBX : Hid (Below w.heap.size w wr) := hb
    clear hv hb
    go_wp2_with (first
      | (at_next; refine wpList_next_ranges _ rfl _ rfl 9 strK Rf Value.string (fun c : Option Nat => Value.pointer (c.map (fun b => (⟨b, 0, none⟩ : Addr)))) (fun key _ hk => keyOf_str_inv hk) (fun v _ hv => Rf_shape hv) nb w.heap.size N _ _ _ rfl hrg ?_ ?_)
      | go_in)
    · intro _ hl0
      have hs0 := sumE_none sz hl0 es'
      have hv2 := HV.out
      rw [hs0] at hv2
      have HBV : Hid (decide (k + allL sz es' ≤ room) = decide ((k : Int) ≤ v)) := by
        rw [hv2]; exact decide_eq_decide.2 (by omega)
      clear hl0 hs0 hv2 HV hrg
      go_wp2_with fail
      go_ret
      exact ⟨by rw [HBV.out]; rfl, HBX.out⟩
    · intro x c kl y1 y2 w1 cnt1 hkey hlx hRv hat hrg1 hcnt hg1 hs1 hen
      obtain ⟨p, hfp, hpy⟩ := find_of_at hat
      obtain ⟨fb, hpf, hcf⟩ := HS.out p (List.mem_of_find?_eq_some hfp)
      have hstr := sumE_strike sz hlx es' HPW.out hfp
      have hszp : szD sz p.2 = sz fb := by rw [hpf]; rfl
      rw [hszp] at hstr
      have hc : c = some fb := by
        have : y1 = .held fb := by rw [← hpf]; exact hpy.symm
        rw [this] at hRv
        have q := Rf_inv hRv
        cases c with
        | none => simp at q
        | some b => simp at q; rw [q]
      subst hc
      have hb1 : Below w.heap.size w w1 := ⟨hg1.os.trans HBX.out.os, hg1.tape.trans HBX.out.tape, hg1.output.trans HBX.out.output, Nat.le_trans HBX.out.size hg1.size, fun q hq => (hg1.block q (Nat.lt_of_lt_of_le hq HBX.out.size) (fun e => by have := Option.some.inj e; omega)).trans (HBX.out.block q hq)⟩
      have l2 : w1.cell? ⟨fb, 2, none⟩ = some (.int .i64 (sz fb : Nat)) := cel_on hb1 hcf
      have hle := HLE.out left
      have hv2 := HV.out
      obtain ⟨v', ev⟩ : ∃ v' : Int, v - ((sz fb : Nat) : Int) = v' := ⟨_, rfl⟩
      have hwv : IntKind.i64.wrap v' = v' := by rw [IntKind.wrap_i64]; omega
      have HV' : Hid (v' = (room : Int) - (allL sz es' : Nat) + (sumE sz (fun z => left z && !z.sameKey kl) es' : Nat)) := by show _ = _; omega
      have hen' : (Instr.entry (.pointer (some ⟨w.heap.size, 0, none⟩))).run Try.prog w1 = .ok (.tuple #[.string x, .pointer (some ⟨fb, 0, none⟩)]) w1 := hen
      have HRG : Hid (wr.ranges Try.prog 9 Rf nb w.heap.size N (.map es') left cnt) := hrg
      have HRG1 : Hid (w1.ranges Try.prog 9 Rf nb w.heap.size N (.map es') (fun z => left z && !z.sameKey kl) cnt1) := hrg1
      have HCN : Hid (cnt1 < cnt) := hcnt
      have HB1 : Hid (Below w.heap.size w w1) := hb1
      clear hat hfp hpy hpf hcf hstr hszp hRv hb1 hle hv2 hen hrg hrg1 hcnt hlx hkey HV HBX hg1 hs1
      generalize sz fb = zf at *
      go_wp2_with fail
      go_roundw
      case rel => exact ⟨_, cnt1, v', HRG1.out, rfl, HV'.out, HB1.out⟩
      case measure => rw [HRG1.out.left_eq, HRG.out.left_eq]; exact HCN.out
end Go.Proofs.Ytbnlgohaaadgeaa

/- Package disk: find, for any disk. -/
namespace Go.Proofs.Ytbnlgohaaadgeaa
open Go.RowKit Go.Maps Go.Sort
set_option maxRecDepth 100000
set_option maxRecDepth 100000

/-- What find tells: the file's block, the error's number. -/
def findM (off : Bool) (D : DataW Nat) (s : ByteArray) : Option Nat × Nat :=
  if off then (none, 45) else if okN s then (match D.atKey (.string s.data.toList) .nil with
    | .held b => (some b, 0)
    | _ => (none, 42)) else (none, 41)
def ptrO (o : Option Nat) : Value := .pointer (o.map (fun b => (⟨b, 0, none⟩ : Addr)))
/-- Every entry is a file. -/
def Files (D : DataW Nat) : Prop := ∀ k, D.atKey k .nil = .nil ∨ ∃ b, D.atKey k .nil = .held b
theorem okN_size {s : ByteArray} (h : okN s = true) : 1 ≤ s.size ∧ s.size ≤ 64 := by
  unfold okN at h
  simp only [Bool.and_eq_true, decide_eq_true_eq] at h
  exact h.1
theorem find_gen {w : World} {db nb N : Nat} {off : Bool} {D : DataW Nat} (c4 : w.cell? ⟨db, 4, none⟩ = some (.bool off)) (c2 : w.cell? ⟨db, 2, none⟩ = some (.map (some nb))) (hD : w.ownsMap Try.prog 9 Rf nb N D) (hF : Files D) (s : ByteArray) :
    Calls Try.prog 50 #[.pointer (some ⟨db, 0, none⟩), .string s] w fun e w' => e = .returned (.tuple #[ptrO (findM off D s).1, .int .i64 ((findM off D s).2 : Nat)]) ∧ w' = w := by
  have hfn := fun W => fileName_any s W
  cases off with
  | true =>
    have e : findM true D s = (none, 45) := rfl
    rw [e]
    clear hfn hD e
    go_enter Try.func50, Try.ntmps50
    go_wp2_with fail
    go_ret2
    exact ⟨rfl, rfl⟩
  | false =>
    cases hs : okN s with
    | false =>
      rw [hs] at hfn
      have e : findM false D s = (none, 41) := by unfold findM; rw [hs]; rfl
      rw [e]
      clear hD e hs
      go_enter Try.func50, Try.ntmps50
      go_wp2_with (go_at_call 60; refine (hfn _).mono ?_; rintro e w1 ⟨rfl, rfl⟩)
      go_ret2
      exact ⟨rfl, rfl⟩
    | true =>
      rw [hs] at hfn
      have hsz := okN_size hs
      obtain ⟨v, ps, hrun, hR⟩ := hD.lookup strK Try.underlying74 (z := .pointer none) (Try.zeroValue85 w) (zd := .nil) (zp := []) rfl (key_str s (by omega))
      rcases hF (.string s.data.toList) with h0 | ⟨b, h0⟩
      · have e : findM false D s = (none, 42) := by unfold findM; rw [hs, h0]; rfl
        rw [e]
        rw [h0] at hR
        have ev := Rf_nil hR
        subst ev
        clear hD e hs hR h0
        go_enter Try.func50, Try.ntmps50
        go_wp2_with (go_at_call 60; refine (hfn _).mono ?_; rintro e w1 ⟨rfl, rfl⟩)
        go_ret2
        exact ⟨rfl, rfl⟩
      · have e : findM false D s = (some b, 0) := by unfold findM; rw [hs, h0]; rfl
        rw [e]
        rw [h0] at hR
        have ev := Rf_inv hR
        subst ev
        clear hD e hs hR h0
        go_enter Try.func50, Try.ntmps50
        go_wp2_with (go_at_call 60; refine (hfn _).mono ?_; rintro e w1 ⟨rfl, rfl⟩)
        go_ret2
        exact ⟨rfl, rfl⟩
end Go.Proofs.Ytbnlgohaaadgeaa

/- Package disk: the whole disk in memory. -/
namespace Go.Proofs.Ytbnlgohaaadgeaa
open Go.RowKit Go.Maps Go.Sort
set_option maxRecDepth 100000
set_option maxRecDepth 100000

theorem rowIs_ne {w : World} {b c n m : Nat} {t t' : TypeId} {F G : Nat → Value} (h : w.rowIs b t n F) (h' : w.rowIs c t' m G) (ht : t ≠ t') : b ≠ c := by
  obtain ⟨cs, hcs, _⟩ := h
  obtain ⟨ds, hds, _⟩ := h'
  intro e
  rw [e, hds] at hcs
  injection hcs with q
  injection q with _ q2
  exact ht q2.symm
theorem FileIs.not_row {w : World} {B fb : Nat} {m : FM} {rv cv : Value} {av : Nat → Value} (h : FileIs w B fb m rv cv av) {c n : Nat} {t : TypeId} {F : Nat → Value} (hr : w.rowIs c t n F) (h1 : t ≠ 98) (h2 : t ≠ 5) (h3 : t ≠ 116) : ¬ FFt fb rv cv av m.chs.length c := by
  rintro (e | e | e | ⟨i, hi, e⟩)
  · exact rowIs_ne hr h.row h1 e
  · exact h.own.apart hr h2 e
  · exact rows_apart h.cow hr h3 e
  · obtain ⟨d, hd⟩ : ∃ d, m.chs[i]? = some d := ⟨_, List.getElem?_eq_getElem hi⟩
    exact (h.aow i d hd).apart hr h2 e
theorem OwnL.not_map {w : World} {B b N : Nat} {v : Value} {l : List Nat} {D : DataW Nat} (h : OwnL w B v l) (hD : w.ownsMap Try.prog 9 Rf b N D) : v.ownBlock ≠ some b := rows_map h hD
theorem FileIs.not_map {w : World} {B fb : Nat} {m : FM} {rv cv : Value} {av : Nat → Value} (h : FileIs w B fb m rv cv av) {c N : Nat} {D : DataW Nat} (hD : w.ownsMap Try.prog 9 Rf c N D) : ¬ FFt fb rv cv av m.chs.length c := by
  rintro (e | e | e | ⟨i, hi, e⟩)
  · exact row_map h.row hD e.symm
  · exact h.own.not_map hD e
  · exact rows_map h.cow hD e
  · obtain ⟨d, hd⟩ : ∃ d, m.chs[i]? = some d := ⟨_, List.getElem?_eq_getElem hi⟩
    exact (h.aow i d hd).not_map hD e
theorem FileIs.not_moves {w : World} {B B' fb n : Nat} {m : FM} {rv cv mv : Value} {av : Nat → Value} {xs : List Value} (h : FileIs w B fb m rv cv av) (hm : w.ownsRow B' 103 3 mv n xs) (k : Nat) (hk : mv.ownBlock = some k) : ¬ FFt fb rv cv av m.chs.length k := by
  have key : ∀ {e : TypeId} {s n' : Nat} {v : Value} {ys : List Value} {K : Nat}, e ≠ 103 → w.ownsRow K e s v n' ys → v.ownBlock ≠ some k := fun {e s n' v ys K} hne ho e2 => by
    rcases hm.2 with ⟨e', _⟩ | ⟨g, cap, cur, e', _, hq, _⟩
    · rw [e'] at hk; cases hk
    · rw [e'] at hk
      have hk : g = k := Option.some.inj hk
      rcases ho.2 with ⟨e3, _⟩ | ⟨g', cap', cur', e3, _, hq', _⟩
      · rw [e3] at e2; cases e2
      · rw [e3] at e2
        have e2 : g' = k := Option.some.inj e2
        rw [hk] at hq
        rw [e2, hq] at hq'
        injection hq' with q
        injection q with _ q2
        exact hne q2.symm
  rintro (e | e | e | ⟨i, hi, e⟩)
  · exact rows_apart hm h.row (by decide) (e ▸ hk)
  · exact key (by decide) h.own e
  · exact key (by decide) h.cow e
  · obtain ⟨d, hd⟩ : ∃ d, m.chs[i]? = some d := ⟨_, List.getElem?_eq_getElem hi⟩
    exact key (by decide) (h.aow i d hd) e

/-- The disk as plain data; a file is known by its block. -/
structure DM where
  room : Nat
  safe : DataW Nat
  seen : DataW Nat
  ms : List Mov
  off : Bool
  st : Nat
  ah : Nat
  po : Int
  pf : Int
  pt : Int
  fm : Nat → FM
def dCell (dm : DM) (sb nb : Nat) (mv : Value) (i : Nat) : Value :=
  if i = 0 then .int .i64 (dm.room : Nat) else if i = 1 then .map (some sb) else if i = 2 then .map (some nb) else if i = 3 then mv else if i = 4 then .bool dm.off else if i = 5 then .int .i64 (dm.st : Nat) else if i = 6 then .int .i64 (dm.ah : Nat) else if i = 7 then .int .i64 dm.po else if i = 8 then .int .i64 dm.pf else .int .i64 dm.pt
/-- Where in memory a file lies. -/
structure FV where
  rv : Value
  cv : Value
  av : Nat → Value
def FV.ft (v : FV) (fb n : Nat) : Nat → Prop := FFt fb v.rv v.cv v.av n
structure DiskIs (w : World) (B db sb nb N : Nat) (dm : DM) (mv : Value) (fs : List Nat) (fv : Nat → FV) : Prop where
  row : w.rowIs db 81 10 (dCell dm sb nb mv)
  safe : w.ownsMap Try.prog 9 Rf sb N dm.safe
  seen : w.ownsMap Try.prog 9 Rf nb N dm.seen
  mow : w.ownsRow B 103 3 mv dm.ms.length (mvCells dm.ms)
  files : ∀ b, b ∈ fs → FileIs w B b (dm.fm b) (fv b).rv (fv b).cv (fv b).av
  apart : ∀ b c, b ∈ fs → c ∈ fs → b ≠ c → ∀ k, (fv b).ft b (dm.fm b).chs.length k → ¬ (fv c).ft c (dm.fm c).chs.length k
  sn : sb ≠ nb
  lb : B ≤ db ∧ B ≤ sb ∧ B ≤ nb ∧ B ≤ w.heap.size
/-- What of memory is the disk's. -/
def DFt (db sb nb : Nat) (dm : DM) (mv : Value) (fs : List Nat) (fv : Nat → FV) (k : Nat) : Prop := k = db ∨ k = sb ∨ k = nb ∨ mv.ownBlock = some k ∨ ∃ b, b ∈ fs ∧ (fv b).ft b (dm.fm b).chs.length k
def put1 {α : Type} (f : Nat → α) (b : Nat) (x : α) (c : Nat) : α := if c = b then x else f c
theorem put1_at {α : Type} (f : Nat → α) (b : Nat) (x : α) : put1 f b x b = x := if_pos rfl
theorem put1_ne {α : Type} (f : Nat → α) {b c : Nat} (x : α) (h : c ≠ b) : put1 f b x c = f c := if_neg h
/-- One file has turned. -/
theorem DiskIs.file {w w' : World} {B db sb nb N : Nat} {dm : DM} {mv : Value} {fs : List Nat} {fv : Nat → FV} (h : DiskIs w B db sb nb N dm mv fs fv) {b : Nat} (hb : b ∈ fs) {m' : FM} {v' : FV} (hF : FileIs w' B b m' v'.rv v'.cv v'.av) (hM : Mv ((fv b).ft b (dm.fm b).chs.length) (v'.ft b m'.chs.length) w w') :
    DiskIs w' B db sb nb N { dm with fm := put1 dm.fm b m' } mv fs (put1 fv b v') ∧ Mv (DFt db sb nb dm mv fs fv) (DFt db sb nb { dm with fm := put1 dm.fm b m' } mv fs (put1 fv b v')) w w' := by
  have hf := h.files b hb
  have kmap : ∀ c N D, w.ownsMap Try.prog 9 Rf c N D → w'.ownsMap Try.prog 9 Rf c N D := fun c N D hD => by
    have hlt := hD.lt
    have hn := hf.not_map hD
    obtain ⟨es, clock, hx, q⟩ := hD
    exact ⟨es, clock, (hM.block c hlt hn).trans hx, q⟩
  have other : ∀ c, c ∈ fs → c ≠ b → ∀ k, (fv c).ft c (dm.fm c).chs.length k → w'.heap[k]? = w.heap[k]? := fun c hc hne k hk => hM.block k ((h.files c hc).ge k hk).2 (h.apart c b hc hb hne k hk)
  refine ⟨⟨h.row.of_block (hM.block db h.row.lt (hf.not_row h.row (by decide) (by decide) (by decide))), kmap _ _ _ h.safe, kmap _ _ _ h.seen, rows_keep h.mow (fun k e => hM.block k (rows_lt h.mow k e).2 (hf.not_moves h.mow k e)), fun c hc => ?_, fun c d hc hd hne k hk hk' => ?_, h.sn, ⟨h.lb.1, h.lb.2.1, h.lb.2.2.1, Nat.le_trans h.lb.2.2.2 hM.size⟩⟩, hM.os, hM.tape, hM.output, hM.size, fun k hk hn => hM.block k hk (fun e => hn (.inr (.inr (.inr (.inr ⟨b, hb, e⟩))))), fun k hk => ?_⟩
  · by_cases e : c = b
    · subst e
      show FileIs w' B c (put1 dm.fm c m' c) (put1 fv c v' c).rv (put1 fv c v' c).cv (put1 fv c v' c).av
      rw [put1_at, put1_at]
      exact hF
    · show FileIs w' B c (put1 dm.fm b m' c) (put1 fv b v' c).rv (put1 fv b v' c).cv (put1 fv b v' c).av
      rw [put1_ne _ _ e, put1_ne _ _ e]
      exact (h.files c hc).later (other c hc e)
  · have p : (put1 fv b v' c).ft c (put1 dm.fm b m' c).chs.length k := hk
    have q : (put1 fv b v' d).ft d (put1 dm.fm b m' d).chs.length k := hk'
    clear hk hk'
    by_cases e : c = b
    · by_cases e2 : d = b
      · exact hne (e.trans e2.symm)
      · rw [e, put1_at, put1_at] at p
        rw [put1_ne _ _ e2, put1_ne _ _ e2] at q
        rcases hM.foot k p with r | r
        · exact h.apart d b hd hb e2 k q r
        · have := ((h.files d hd).ge k q).2; omega
    · rw [put1_ne _ _ e, put1_ne _ _ e] at p
      by_cases e2 : d = b
      · rw [e2, put1_at, put1_at] at q
        rcases hM.foot k q with r | r
        · exact h.apart c b hc hb e k p r
        · have := ((h.files c hc).ge k p).2; omega
      · rw [put1_ne _ _ e2, put1_ne _ _ e2] at q
        exact h.apart c d hc hd hne k p q
  · rcases hk with e | e | e | e | ⟨c, hc, e⟩
    · exact .inl (.inl e)
    · exact .inl (.inr (.inl e))
    · exact .inl (.inr (.inr (.inl e)))
    · exact .inl (.inr (.inr (.inr (.inl e))))
    · have e : (put1 fv b v' c).ft c (put1 dm.fm b m' c).chs.length k := e
      by_cases e2 : c = b
      · subst e2
        rw [put1_at, put1_at] at e
        rcases hM.foot k e with q | q
        · exact .inl (.inr (.inr (.inr (.inr ⟨c, hc, q⟩))))
        · exact .inr q
      · rw [put1_ne _ _ e2, put1_ne _ _ e2] at e
        exact .inl (.inr (.inr (.inr (.inr ⟨c, hc, e⟩))))
end Go.Proofs.Ytbnlgohaaadgeaa

/- Package disk: a stroke of the whole disk; Sync. -/
namespace Go.Proofs.Ytbnlgohaaadgeaa
open Go.RowKit Go.Maps Go.Sort
set_option maxRecDepth 100000
set_option maxRecDepth 100000

/-- The disk's own row has turned, and nothing else. -/
theorem DiskIs.turnRow {w w' : World} {B db sb nb N : Nat} {dm dm' : DM} {mv : Value} {fs : List Nat} {fv : Nat → FV} (h : DiskIs w B db sb nb N dm mv fs fv) (e1 : dm'.safe = dm.safe) (e2 : dm'.seen = dm.seen) (e3 : dm'.ms = dm.ms) (e4 : dm'.fm = dm.fm) (hr : w'.rowIs db 81 10 (dCell dm' sb nb mv)) (hM : Mv (fun k => k = db) (fun k => k = db) w w') :
    DiskIs w' B db sb nb N dm' mv fs fv ∧ Mv (DFt db sb nb dm mv fs fv) (DFt db sb nb dm' mv fs fv) w w' := by
  have kmap : ∀ c N D, w.ownsMap Try.prog 9 Rf c N D → w'.ownsMap Try.prog 9 Rf c N D := fun c N D hD => by
    have hlt := hD.lt
    have hn := row_map h.row hD
    obtain ⟨es, clock, hx, q⟩ := hD
    exact ⟨es, clock, (hM.block c hlt (fun e => hn e.symm)).trans hx, q⟩
  refine ⟨⟨hr, by rw [e1]; exact kmap _ _ _ h.safe, by rw [e2]; exact kmap _ _ _ h.seen, ?_, fun c hc => ?_, fun c d hc hd hne k => ?_, h.sn, ⟨h.lb.1, h.lb.2.1, h.lb.2.2.1, Nat.le_trans h.lb.2.2.2 hM.size⟩⟩, hM.os, hM.tape, hM.output, hM.size, fun k hk hn => hM.block k hk (fun e => hn (.inl e)), fun k hk => ?_⟩
  · rw [e3]
    exact rows_keep h.mow (fun k e => hM.block k (rows_lt h.mow k e).2 (fun e2 => rows_apart h.mow h.row (by decide) (e2 ▸ e)))
  · rw [e4]
    exact (h.files c hc).later (fun k hk => hM.block k ((h.files c hc).ge k hk).2 (fun e => (h.files c hc).not_row h.row (by decide) (by decide) (by decide) (e ▸ hk)))
  · rw [e4]
    exact h.apart c d hc hd hne k
  · unfold DFt at hk ⊢
    rw [e4] at hk
    exact .inl hk

def strokeM (dm : DM) : DM := { dm with st := dm.st + 1, off := if hitB dm.st dm.ah dm.po then true else dm.off }
def strokeE (dm : DM) : Nat := if hitB dm.st dm.ah dm.po then 45 else 0
theorem stroke_disk {w : World} {B db sb nb N : Nat} {dm : DM} {mv : Value} {fs : List Nat} {fv : Nat → FV} (h : DiskIs w B db sb nb N dm mv fs fv) (hs : dm.st < 1152921504606846976) (ha : dm.ah ≤ dm.st) :
    Calls Try.prog 51 #[.pointer (some ⟨db, 4, none⟩)] w fun e w' => e = .returned (.int .i64 (strokeE dm : Nat)) ∧ DiskIs w' B db sb nb N (strokeM dm) mv fs fv ∧ Mv (DFt db sb nb dm mv fs fv) (DFt db sb nb (strokeM dm) mv fs fv) w w' := by
  refine (stroke_any (st := dm.st) (ah := dm.ah) (po := dm.po) h.row (by decide) rfl rfl rfl hs ha).mono fun e w' ⟨he, hr, hM⟩ => ?_
  refine ⟨by rw [he]; unfold strokeE; split <;> rfl, h.turnRow rfl rfl rfl rfl (hr.congr (fun i hi => ?_)) hM⟩
  unfold strCell dCell strokeM
  match i, hi with
  | 0, _ => rfl
  | 1, _ => rfl
  | 2, _ => rfl
  | 3, _ => rfl
  | 4, _ => simp
  | 5, _ => rfl
  | 6, _ => rfl
  | 7, _ => rfl
  | 8, _ => rfl
  | 9, _ => rfl

/-- A file within bounds. -/
def FM.fit (m : FM) : Prop := okM m.safe m.chs ∧ m.safe.length + sumB m.chs ≤ 1099511627776 ∧ m.chs.length ≤ 1099511627776 ∧ m.sz ≤ 1099511627776
def syncM (dm : DM) (s : ByteArray) : DM × Nat := match findM dm.off dm.seen s with
  | (some b, _) => if strokeE dm = 0 then ({ strokeM dm with fm := put1 dm.fm b (safeM (dm.fm b)) }, 0) else (strokeM dm, strokeE dm)
  | (none, e) => (dm, e)
theorem strokeE_cases (dm : DM) : strokeE dm = 0 ∨ strokeE dm = 45 := by unfold strokeE; split <;> simp
set_option maxHeartbeats 1600000 in
theorem sync_any {w : World} {B db sb nb N : Nat} {dm : DM} {mv : Value} {fs : List Nat} {fv : Nat → FV} (h : DiskIs w B db sb nb N dm mv fs fv) (hF : Files dm.seen) (hled : ∀ s b, (findM dm.off dm.seen s).1 = some b → b ∈ fs ∧ (dm.fm b).fit) (hs : dm.st < 1152921504606846976) (ha : dm.ah ≤ dm.st) (s : ByteArray) :
    Calls Try.prog 34 #[.pointer (some ⟨db, 0, none⟩), .string s] w fun e w' => e = .returned (.int .i64 ((syncM dm s).2 : Nat)) ∧ ∃ fv', DiskIs w' B db sb nb N (syncM dm s).1 mv fs fv' ∧ Mv (DFt db sb nb dm mv fs fv) (DFt db sb nb (syncM dm s).1 mv fs fv') w w' := by
  have c4 : w.cell? ⟨db, 4, none⟩ = some (.bool dm.off) := h.row.cell (i := 4) (by decide)
  have c2 : w.cell? ⟨db, 2, none⟩ = some (.map (some nb)) := h.row.cell (i := 2) (by decide)
  have hfd := find_gen c4 c2 h.seen hF s
  have hl := hled s
  unfold syncM
  obtain ⟨o, e0, hfm⟩ : ∃ o e0, findM dm.off dm.seen s = (o, e0) := ⟨_, _, rfl⟩
  have hne0 : o = none → e0 = 41 ∨ e0 = 42 ∨ e0 = 45 := fun ho => by
    have := hfm
    unfold findM at this
    split at this
    · injection this with _ q; exact .inr (.inr q.symm)
    · split at this
      · split at this
        · injection this with q _; rw [ho] at q; cases q
        · injection this with _ q; exact .inr (.inl q.symm)
      · injection this with _ q; exact .inl q.symm
  have hz0 : ∀ b, o = some b → e0 = 0 := fun b ho => by
    have := hfm
    unfold findM at this
    split at this
    · injection this with q _; rw [ho] at q; cases q
    · split at this
      · split at this
        · injection this with _ q; exact q.symm
        · injection this with q _; rw [ho] at q; cases q
      · injection this with q _; rw [ho] at q; cases q
  rw [hfm] at hfd hl ⊢
  clear hfm c4 c2
  cases o with
  | none =>
    have HR : Hid (∃ fv', DiskIs w B db sb nb N dm mv fs fv' ∧ Mv (DFt db sb nb dm mv fs fv) (DFt db sb nb dm mv fs fv') w w) := ⟨fv, h, Mv.refl _ _⟩
    have hne : (((e0 : Nat) : Int) != 0) = true := by
      have := hne0 rfl
      simp only [bne_iff_ne, ne_eq]; omega
    have HFD : Hid (Calls Try.prog 50 #[.pointer (some ⟨db, 0, none⟩), .string s] w fun e w' => e = .returned (.tuple #[.pointer none, .int .i64 ((e0 : Nat) : Int)]) ∧ w' = w) := hfd
    clear h hfd hl hz0 hne0 hled
    go_enter Try.func34, Try.ntmps34
    go_wp2_with (go_at_call 50; refine HFD.out.mono ?_; rintro e w1 ⟨rfl, rfl⟩)
    go_ret
    exact ⟨rfl, HR.out⟩
  | some b =>
    obtain ⟨hbf, hfit⟩ := hl b rfl
    have he0 := hz0 b rfl
    subst he0
    have HFD : Hid (Calls Try.prog 50 #[.pointer (some ⟨db, 0, none⟩), .string s] w fun e w' => e = .returned (.tuple #[.pointer (some ⟨b, 0, none⟩), .int .i64 0]) ∧ w' = w) := hfd
    have hst := stroke_disk h hs ha
    rcases strokeE_cases dm with hE | hE
    · rw [hE] at hst
      simp only [hE, if_pos]
      have HST : Hid (Calls Try.prog 51 #[.pointer (some ⟨db, 4, none⟩)] w fun e w' => e = .returned (.int .i64 0) ∧ DiskIs w' B db sb nb N (strokeM dm) mv fs fv ∧ Mv (DFt db sb nb dm mv fs fv) (DFt db sb nb (strokeM dm) mv fs fv) w w') := hst
      have HMS : Hid (∀ W, DiskIs W B db sb nb N (strokeM dm) mv fs fv → Mv (DFt db sb nb dm mv fs fv) (DFt db sb nb (strokeM dm) mv fs fv) w W → Calls Try.prog 58 #[.pointer (some ⟨b, 0, none⟩)] W fun e w' => e = .returned (.tuple #[]) ∧ ∃ fv', DiskIs w' B db sb nb N { strokeM dm with fm := put1 dm.fm b (safeM (dm.fm b)) } mv fs fv' ∧ Mv (DFt db sb nb dm mv fs fv) (DFt db sb nb { strokeM dm with fm := put1 dm.fm b (safeM (dm.fm b)) } mv fs fv') w w') := fun W hW hMW => by
        obtain ⟨q1, q2, q3, q4⟩ := hfit
        refine (makeSafe_any (hW.files b hbf) hW.lb.2.2.2 q1 q2 q3).mono fun e w' ⟨he, rv', cv', av', hF', hM'⟩ => ?_
        obtain ⟨hD', hMD⟩ := hW.file hbf (v' := ⟨rv', cv', av'⟩) hF' hM'
        exact ⟨he, _, hD', hMW.trans hMD⟩
      clear h hfd hl hz0 hne0 hled hst hfit
      generalize ({ strokeM dm with fm := put1 dm.fm b (safeM (dm.fm b)) } : DM) = D2 at *
      go_enter Try.func34, Try.ntmps34
      go_wp2_with (first
        | (go_at_call 50; refine HFD.out.mono ?_; rintro e w1 ⟨rfl, rfl⟩)
        | (go_at_call 51; refine HST.out.mono ?_; rintro e w2 ⟨rfl, hD2, hM2⟩; have HMS2 : Hid _ := HMS.out w2 hD2 hM2; clear hD2 hM2 HMS)
        | (go_at_call 58; refine Calls.mono HMS2.out ?_; rintro e w3 ⟨rfl, hFM⟩; have HFM : Hid _ := hFM; clear hFM HMS2))
      go_ret
      exact ⟨rfl, HFM.out⟩
    · rw [hE] at hst
      have h45 : ¬ (strokeE dm = 0) := by rw [hE]; decide
      simp only [hE]
      have HST : Hid (Calls Try.prog 51 #[.pointer (some ⟨db, 4, none⟩)] w fun e w' => e = .returned (.int .i64 45) ∧ DiskIs w' B db sb nb N (strokeM dm) mv fs fv ∧ Mv (DFt db sb nb dm mv fs fv) (DFt db sb nb (strokeM dm) mv fs fv) w w') := hst
      clear h hfd hl hz0 hne0 hled hst hfit h45
      go_enter Try.func34, Try.ntmps34
      go_wp2_with (first
        | (go_at_call 50; refine HFD.out.mono ?_; rintro e w1 ⟨rfl, rfl⟩)
        | (go_at_call 51; refine HST.out.mono ?_; rintro e w2 ⟨rfl, hD2, hM2⟩; have HDM : Hid (DiskIs w2 B db sb nb N (strokeM dm) mv fs fv ∧ Mv (DFt db sb nb dm mv fs fv) (DFt db sb nb (strokeM dm) mv fs fv) w1 w2) := And.intro hD2 hM2; clear hD2 hM2))
      go_ret
      exact ⟨rfl, fv, HDM.out.1, HDM.out.2⟩
end Go.Proofs.Ytbnlgohaaadgeaa

/- Package disk: Cut. -/
namespace Go.Proofs.Ytbnlgohaaadgeaa
open Go.RowKit Go.Maps Go.Sort
set_option maxRecDepth 100000
set_option maxRecDepth 100000

theorem findM_none {off : Bool} {D : DataW Nat} {s : ByteArray} {e0 : Nat} (h : findM off D s = (none, e0)) : e0 = 41 ∨ e0 = 42 ∨ e0 = 45 := by
  unfold findM at h
  split at h
  · injection h with _ q; exact .inr (.inr q.symm)
  · split at h
    · split at h
      · injection h with q _; cases q
      · injection h with _ q; exact .inr (.inl q.symm)
    · injection h with _ q; exact .inl q.symm
theorem findM_some {off : Bool} {D : DataW Nat} {s : ByteArray} {b e0 : Nat} (h : findM off D s = (some b, e0)) : e0 = 0 := by
  unfold findM at h
  split at h
  · injection h with q _; cases q
  · split at h
    · split at h
      · injection h with _ q; exact q.symm
      · injection h with q _; cases q
    · injection h with q _; cases q

def cutD (dm : DM) (s : ByteArray) (n : Int) : DM × Nat := match findM dm.off dm.seen s with
  | (some b, _) => if n < 0 ∨ ((dm.fm b).sz : Int) < n then (dm, 43) else ({ strokeM dm with fm := put1 dm.fm b (cutM (dm.fm b) n.toNat) }, strokeE dm)
  | (none, e) => (dm, e)
set_option maxHeartbeats 1600000 in
theorem cutD_any {w : World} {B db sb nb N : Nat} {dm : DM} {mv : Value} {fs : List Nat} {fv : Nat → FV} (h : DiskIs w B db sb nb N dm mv fs fv) (hF : Files dm.seen) (hled : ∀ s b, (findM dm.off dm.seen s).1 = some b → b ∈ fs ∧ (dm.fm b).fit) (hs : dm.st < 1152921504606846976) (ha : dm.ah ≤ dm.st) (s : ByteArray) (n : Int) :
    Calls Try.prog 33 #[.pointer (some ⟨db, 0, none⟩), .string s, .int .i64 n] w fun e w' => e = .returned (.int .i64 ((cutD dm s n).2 : Nat)) ∧ ∃ fv', DiskIs w' B db sb nb N (cutD dm s n).1 mv fs fv' ∧ Mv (DFt db sb nb dm mv fs fv) (DFt db sb nb (cutD dm s n).1 mv fs fv') w w' := by
  have c4 : w.cell? ⟨db, 4, none⟩ = some (.bool dm.off) := h.row.cell (i := 4) (by decide)
  have c2 : w.cell? ⟨db, 2, none⟩ = some (.map (some nb)) := h.row.cell (i := 2) (by decide)
  have hfd := find_gen c4 c2 h.seen hF s
  have hl := hled s
  unfold cutD
  obtain ⟨o, e0, hfm⟩ : ∃ o e0, findM dm.off dm.seen s = (o, e0) := ⟨_, _, rfl⟩
  rw [hfm] at hfd hl ⊢
  clear c4 c2
  cases o with
  | none =>
    have HR : Hid (∃ fv', DiskIs w B db sb nb N dm mv fs fv' ∧ Mv (DFt db sb nb dm mv fs fv) (DFt db sb nb dm mv fs fv') w w) := ⟨fv, h, Mv.refl _ _⟩
    have hne : (((e0 : Nat) : Int) != 0) = true := by
      have := findM_none hfm
      simp only [bne_iff_ne, ne_eq]; omega
    have HFD : Hid (Calls Try.prog 50 #[.pointer (some ⟨db, 0, none⟩), .string s] w fun e w' => e = .returned (.tuple #[.pointer none, .int .i64 ((e0 : Nat) : Int)]) ∧ w' = w) := hfd
    clear h hfd hl hled hfm
    go_enter Try.func33, Try.ntmps33
    go_wp2_with (go_at_call 50; refine HFD.out.mono ?_; rintro e w1 ⟨rfl, rfl⟩)
    go_ret
    exact ⟨rfl, HR.out⟩
  | some b =>
    obtain ⟨hbf, hfit⟩ := hl b rfl
    have he0 := findM_some hfm
    subst he0
    have HFD : Hid (Calls Try.prog 50 #[.pointer (some ⟨db, 0, none⟩), .string s] w fun e w' => e = .returned (.tuple #[.pointer (some ⟨b, 0, none⟩), .int .i64 0]) ∧ w' = w) := hfd
    have z2 : w.cell? ⟨b, 2, none⟩ = some (.int .i64 ((dm.fm b).sz : Nat)) := (h.files b hbf).row.cell (i := 2) (by decide)
    by_cases hbad : n < 0 ∨ ((dm.fm b).sz : Int) < n
    · simp only [if_pos hbad]
      have HR : Hid (∃ fv', DiskIs w B db sb nb N dm mv fs fv' ∧ Mv (DFt db sb nb dm mv fs fv) (DFt db sb nb dm mv fs fv') w w) := ⟨fv, h, Mv.refl _ _⟩
      clear h hfd hl hled hfm hfit
      generalize (dm.fm b).sz = S at *
      by_cases hneg : n < 0
      · go_enter Try.func33, Try.ntmps33
        go_wp2_with (go_at_call 50; refine HFD.out.mono ?_; rintro e w1 ⟨rfl, rfl⟩)
        go_ret
        exact ⟨rfl, HR.out⟩
      · have hgt : (S : Int) < n := by omega
        clear hbad
        go_enter Try.func33, Try.ntmps33
        go_wp2_with (go_at_call 50; refine HFD.out.mono ?_; rintro e w1 ⟨rfl, rfl⟩)
        go_ret
        exact ⟨rfl, HR.out⟩
    · simp only [if_neg hbad]
      obtain ⟨k, rfl⟩ : ∃ k : Nat, n = (k : Int) := ⟨n.toNat, by omega⟩
      have hst := stroke_disk h hs ha
      have HMS : Hid (∀ W, DiskIs W B db sb nb N (strokeM dm) mv fs fv → Mv (DFt db sb nb dm mv fs fv) (DFt db sb nb (strokeM dm) mv fs fv) w W → Calls Try.prog 57 #[.pointer (some ⟨b, 0, none⟩), .int .i64 (k : Int)] W fun e w' => e = .returned (.tuple #[]) ∧ ∃ fv', DiskIs w' B db sb nb N { strokeM dm with fm := put1 dm.fm b (cutM (dm.fm b) k) } mv fs fv' ∧ Mv (DFt db sb nb dm mv fs fv) (DFt db sb nb { strokeM dm with fm := put1 dm.fm b (cutM (dm.fm b) k) } mv fs fv') w w') := fun W hW hMW => by
        obtain ⟨q1, q2, q3, q4⟩ := hfit
        refine (cut_any (hW.files b hbf) hW.lb.2.2.2 q3 k).mono fun e w' ⟨he, rv', cv', av', hF', hM'⟩ => ?_
        obtain ⟨hD', hMD⟩ := hW.file hbf (v' := ⟨rv', cv', av'⟩) hF' hM'
        exact ⟨he, _, hD', hMW.trans hMD⟩
      have HST : Hid (Calls Try.prog 51 #[.pointer (some ⟨db, 4, none⟩)] w fun e w' => e = .returned (.int .i64 (strokeE dm : Nat)) ∧ DiskIs w' B db sb nb N (strokeM dm) mv fs fv ∧ Mv (DFt db sb nb dm mv fs fv) (DFt db sb nb (strokeM dm) mv fs fv) w w') := hst
      have hnn : ¬ ((k : Int) < 0) := by omega
      have hle : ¬ (((dm.fm b).sz : Int) < (k : Int)) := by omega
      show Calls _ _ _ _ fun e w' => e = .returned (.int .i64 (strokeE dm : Nat)) ∧ ∃ fv', DiskIs w' B db sb nb N { strokeM dm with fm := put1 dm.fm b (cutM (dm.fm b) k) } mv fs fv' ∧ Mv (DFt db sb nb dm mv fs fv) (DFt db sb nb { strokeM dm with fm := put1 dm.fm b (cutM (dm.fm b) k) } mv fs fv') w w'
      clear h hfd hl hled hst hfit hfm hbad
      generalize ({ strokeM dm with fm := put1 dm.fm b (cutM (dm.fm b) k) } : DM) = D2 at *
      generalize (dm.fm b).sz = S at *
      generalize strokeE dm = SE at *
      go_enter Try.func33, Try.ntmps33
      go_wp2_with (first
        | (go_at_call 50; refine HFD.out.mono ?_; rintro e w1 ⟨rfl, rfl⟩)
        | (go_at_call 51; refine HST.out.mono ?_; rintro e w2 ⟨rfl, hD2, hM2⟩; have HMS2 : Hid _ := HMS.out w2 hD2 hM2; clear hD2 hM2 HMS)
        | (go_at_call 57; refine Calls.mono HMS2.out ?_; rintro e w3 ⟨rfl, hFM⟩; have HFM : Hid _ := hFM; clear hFM HMS2))
      go_ret
      exact ⟨rfl, HFM.out⟩
end Go.Proofs.Ytbnlgohaaadgeaa

/- Package disk: the names of the whole disk; SyncNames. -/
namespace Go.Proofs.Ytbnlgohaaadgeaa
open Go.RowKit Go.Maps Go.Sort
set_option maxRecDepth 100000
set_option maxRecDepth 100000

theorem map_wide {w : World} {b n m : Nat} {D : DataW Nat} (h : w.ownsMap Try.prog 9 Rf b n D) (hn : n ≤ m) : w.ownsMap Try.prog 9 Rf b m D := by
  obtain ⟨es, clock, hx, F, hs, hD⟩ := h
  exact ⟨es, clock, hx, F, Nat.le_trans hs hn, hD⟩
/-- The names have turned: the disk's row, the two maps, the list of moves; no file. -/
def NF2 (db sb nb : Nat) (mv : Value) (k : Nat) : Prop := k = db ∨ k = sb ∨ k = nb ∨ mv.ownBlock = some k
theorem DiskIs.turnNames {w w' : World} {B db sb nb N N' : Nat} {dm dm' : DM} {mv mv' : Value} {fs : List Nat} {fv : Nat → FV} (h : DiskIs w B db sb nb N dm mv fs fv) (e4 : dm'.fm = dm.fm) (hr : w'.rowIs db 81 10 (dCell dm' sb nb mv')) (hs : w'.ownsMap Try.prog 9 Rf sb N' dm'.safe) (hn : w'.ownsMap Try.prog 9 Rf nb N' dm'.seen) (hm : w'.ownsRow B 103 3 mv' dm'.ms.length (mvCells dm'.ms)) (hM : Mv (NF2 db sb nb mv) (NF2 db sb nb mv') w w') :
    DiskIs w' B db sb nb N' dm' mv' fs fv ∧ Mv (DFt db sb nb dm mv fs fv) (DFt db sb nb dm' mv' fs fv) w w' := by
  have kf : ∀ c, c ∈ fs → ∀ k, (fv c).ft c (dm.fm c).chs.length k → ¬ NF2 db sb nb mv k := fun c hc k hk => by
    have hf := h.files c hc
    rintro (e | e | e | e)
    · exact hf.not_row h.row (by decide) (by decide) (by decide) (e ▸ hk)
    · exact hf.not_map h.safe (e ▸ hk)
    · exact hf.not_map h.seen (e ▸ hk)
    · exact hf.not_moves h.mow k e hk
  refine ⟨⟨hr, hs, hn, hm, fun c hc => ?_, fun c d hc hd hne k => ?_, h.sn, ⟨h.lb.1, h.lb.2.1, h.lb.2.2.1, Nat.le_trans h.lb.2.2.2 hM.size⟩⟩, hM.os, hM.tape, hM.output, hM.size, fun k hk hnf => hM.block k hk (fun e => hnf ?_), fun k hk => ?_⟩
  · rw [e4]
    exact (h.files c hc).later (fun k hk => hM.block k ((h.files c hc).ge k hk).2 (kf c hc k hk))
  · rw [e4]
    exact h.apart c d hc hd hne k
  · rcases e with e | e | e | e
    · exact .inl e
    · exact .inr (.inl e)
    · exact .inr (.inr (.inl e))
    · exact .inr (.inr (.inr (.inl e)))
  · have foot : NF2 db sb nb mv' k → DFt db sb nb dm mv fs fv k ∨ w.heap.size ≤ k := fun q => by
      rcases hM.foot k q with (e | e | e | e) | e
      · exact .inl (.inl e)
      · exact .inl (.inr (.inl e))
      · exact .inl (.inr (.inr (.inl e)))
      · exact .inl (.inr (.inr (.inr (.inl e))))
      · exact .inr e
    rcases hk with e | e | e | e | ⟨c, hc, e⟩
    · exact foot (.inl e)
    · exact foot (.inr (.inl e))
    · exact foot (.inr (.inr (.inl e)))
    · exact foot (.inr (.inr (.inr e)))
    · rw [e4] at e
      exact .inl (.inr (.inr (.inr (.inr ⟨c, hc, e⟩))))
theorem dCell_mv (dm dm' : DM) (sb nb : Nat) (mv mv' : Value) (h0 : dm'.room = dm.room) (h4 : dm'.off = dm.off) (h5 : dm'.st = dm.st) (h6 : dm'.ah = dm.ah) (h7 : dm'.po = dm.po) (h8 : dm'.pf = dm.pf) (h9 : dm'.pt = dm.pt) (i : Nat) : (if i = 3 then mv' else dCell dm sb nb mv i) = dCell dm' sb nb mv' i := by
  unfold dCell
  rw [h0, h4, h5, h6, h7, h8, h9]
  by_cases e : i = 3
  · subst e; rfl
  · rw [if_neg e]; simp only [if_neg e]

/-- A move more. -/
def changeM (dm : DM) (m : Mov) : DM := { dm with ms := dm.ms ++ [m], seen := m.on dm.seen }
theorem change_disk {w : World} {B db sb nb N : Nat} {dm : DM} {mv : Value} {fs : List Nat} {fv : Nat → FV} (h : DiskIs w B db sb nb N dm mv fs fv) (hN : N ≤ 1099511627776) (hk : dm.ms.length ≤ 1099511627776) (m : Mov) (hm : m.ok) :
    Calls Try.prog 55 #[.pointer (some ⟨db, 1, none⟩), m.v] w fun e w' => e = .returned (.tuple #[]) ∧ ∃ mv', DiskIs w' B db sb nb (N + 1) (changeM dm m) mv' fs fv ∧ Mv (DFt db sb nb dm mv fs fv) (DFt db sb nb (changeM dm m) mv' fs fv) w w' := by
  refine (change_any h.row (by decide) (by decide) rfl rfl h.mow h.seen hN hk h.lb.2.2.2 m hm).mono fun e w' ⟨he, mv', hr, ho, hD, hM⟩ => ⟨he, mv', ?_⟩
  have hlt := h.safe.lt
  have hns : ¬ NF db nb mv sb := by
    rintro (e | e | e)
    · exact row_map h.row h.safe e.symm
    · exact rows_map h.mow h.safe e
    · exact h.sn e
  have hs : w'.ownsMap Try.prog 9 Rf sb (N + 1) dm.safe := by
    refine map_wide ?_ (Nat.le_succ N)
    obtain ⟨es, clock, hx, q⟩ := h.safe
    exact ⟨es, clock, (hM.block sb hlt hns).trans hx, q⟩
  refine h.turnNames rfl (hr.congr (fun i _ => dCell_mv dm (changeM dm m) sb nb mv mv' rfl rfl rfl rfl rfl rfl rfl i)) hs hD ?_ ⟨hM.os, hM.tape, hM.output, hM.size, fun k hk hnf => hM.block k hk (fun e => hnf ?_), fun k hk => ?_⟩
  · show w'.ownsRow B _ 3 mv' (dm.ms ++ [m]).length (mvCells (dm.ms ++ [m]))
    rw [List.length_append, mvCells_snoc]
    exact ho
  · rcases e with e | e | e
    · exact .inl e
    · exact .inr (.inr (.inr e))
    · exact .inr (.inr (.inl e))
  · have foot : NF db nb mv' k → NF2 db sb nb mv k ∨ w.heap.size ≤ k := fun q => by
      rcases hM.foot k q with (e | e | e) | e
      · exact .inl (.inl e)
      · exact .inl (.inr (.inr (.inr e)))
      · exact .inl (.inr (.inr (.inl e)))
      · exact .inr e
    rcases hk with e | e | e | e
    · exact foot (.inl e)
    · exact .inl (.inr (.inl e))
    · exact foot (.inr (.inr e))
    · exact foot (.inr (.inl e))

/-- The names made safe. -/
def safeN (dm : DM) : DM := { dm with ms := [], safe := movesOn dm.safe dm.ms }
theorem safeN_disk {w : World} {B db sb nb N : Nat} {dm : DM} {mv : Value} {fs : List Nat} {fv : Nat → FV} (h : DiskIs w B db sb nb N dm mv fs fv) (hN : N + dm.ms.length ≤ 1099511627776) (hok : ∀ (i : Nat) (m : Mov), dm.ms[i]? = some m → m.ok) :
    Calls Try.prog 59 #[.pointer (some ⟨db, 1, none⟩)] w fun e w' => e = .returned (.tuple #[]) ∧ ∃ mv', DiskIs w' B db sb nb (N + dm.ms.length) (safeN dm) mv' fs fv ∧ Mv (DFt db sb nb dm mv fs fv) (DFt db sb nb (safeN dm) mv' fs fv) w w' := by
  refine (makeSafeN_any h.row (by decide) (by decide) rfl rfl h.mow h.safe hN hok).mono fun e w' ⟨he, mv', hr, ho, hD, hM⟩ => ⟨he, mv', ?_⟩
  have hlt := h.seen.lt
  have hns : ¬ NF db sb mv nb := by
    rintro (e | e | e)
    · exact row_map h.row h.seen e.symm
    · exact rows_map h.mow h.seen e
    · exact h.sn e.symm
  have hs : w'.ownsMap Try.prog 9 Rf nb (N + dm.ms.length) dm.seen := by
    refine map_wide ?_ (Nat.le_add_right N _)
    obtain ⟨es, clock, hx, q⟩ := h.seen
    exact ⟨es, clock, (hM.block nb hlt hns).trans hx, q⟩
  refine h.turnNames rfl (hr.congr (fun i _ => dCell_mv dm (safeN dm) sb nb mv mv' rfl rfl rfl rfl rfl rfl rfl i)) hD hs ho ⟨hM.os, hM.tape, hM.output, hM.size, fun k hk hnf => hM.block k hk (fun e => hnf ?_), fun k hk => ?_⟩
  · rcases e with e | e | e
    · exact .inl e
    · exact .inr (.inr (.inr e))
    · exact .inr (.inl e)
  · have foot : NF db sb mv' k → NF2 db sb nb mv k ∨ w.heap.size ≤ k := fun q => by
      rcases hM.foot k q with (e | e | e) | e
      · exact .inl (.inl e)
      · exact .inl (.inr (.inr (.inr e)))
      · exact .inl (.inr (.inl e))
      · exact .inr e
    rcases hk with e | e | e | e
    · exact foot (.inl e)
    · exact foot (.inr (.inr e))
    · exact .inl (.inr (.inr (.inl e)))
    · exact foot (.inr (.inl e))
end Go.Proofs.Ytbnlgohaaadgeaa
