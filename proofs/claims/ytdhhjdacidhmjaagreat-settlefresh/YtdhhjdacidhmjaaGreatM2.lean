/- Own texts, joined: ST1, ST2, ST3, ST4, ST5, ST6, ST7, FloatMath. -/
import Derived.Test.YtdhhjdacidhmjaaGreatM1
import Derived.Deep.CutBlock
import Derived.Deep.MidRow
import Derived.BigQuiet
import Ieee.Arith

/- Package settle: entries, what is due, as plain data and in memory; dueOf. -/
namespace Go.Proofs.YtdhhjdacidhmjaaGreat
open Go.RowKit
set_option maxRecDepth 100000
set_option maxRecDepth 100000

/-- An entry of a queue. -/
structure Ent where
  p : Int
  nu : Nat
  na : List Nat
  am : Nat
def entCell (e : Ent) (i : Nat) : Value := if i = 0 then .int .i64 e.p else if i = 1 then .int .u64 (e.nu : Nat) else if i = 2 then .string (strL e.na) else .int .u64 (e.am : Nat)
def entL (e : Ent) : List Value := [.int .i64 e.p, .int .u64 (e.nu : Nat), .string (strL e.na), .int .u64 (e.am : Nat)]
/-- What is due to a peer: the first entry, the least number. -/
structure Du where
  e : Ent
  le : Nat
def duCell (u : Du) (i : Nat) : Value := if i < 4 then entCell u.e i else .int .u64 (u.le : Nat)
def stD (q : Int) (d : Option Du) (e : Ent) : Option Du := if e.p = q then (match d with | none => some ⟨e, e.nu⟩ | some u => some ⟨u.e, min u.le e.nu⟩) else d
def dueM (l : List Ent) (q : Int) : Option Du := l.foldl (stD q) none
theorem dueM_take (l : List Ent) (q : Int) (j : Nat) (e : Ent) (h : l[j]? = some e) : dueM (l.take (j + 1)) q = stD q (dueM (l.take j) q) e := by
  obtain ⟨hj, he⟩ := List.getElem?_eq_some_iff.1 h
  unfold dueM
  rw [List.take_add_one, h]
  simp [List.foldl_append]
/-- A queue that is shown. -/
structure QIn (w : World) (qa : Option Addr) (l : List Ent) : Prop where
  at' : ∀ (j : Nat) e, l[j]? = some e → ∃ b o, qa = some ⟨b, o, none⟩ ∧ w.rangeAt b (o + j * 4) (entL e) ∧ b < w.heap.size
  ok : ∀ e ∈ l, e.nu < 18446744073709551616 ∧ e.am < 18446744073709551616
theorem QIn.since {w w' : World} {qa : Option Addr} {l : List Ent} (h : QIn w qa l) (hs : w.Since w.heap.size w') : QIn w' qa l :=
  ⟨fun j e he => by
    obtain ⟨b, o, h1, h2, h3⟩ := h.at' j e he
    exact ⟨b, o, h1, fun i v hv => by rw [World.cell?_of_block (a := ⟨b, (o + j * 4) + i, none⟩) (hs.block b h3)]; exact h2 i v hv, Nat.lt_of_lt_of_le h3 hs.size⟩, h.ok⟩
/-- The value of what is due. -/
def DuV (lo : Nat) (w : World) (v : Value) (d : Option Du) : Prop := (d = none ∧ v = .pointer none) ∨ ∃ u b, d = some u ∧ v = .pointer (some ⟨b, 0, none⟩) ∧ lo ≤ b ∧ w.rowIs b 128 5 (duCell u)
theorem DuV.on {lo : Nat} {w w' : World} {v : Value} {d : Option Du} (h : DuV lo w v d) (hb : ∀ b, lo ≤ b → b < w.heap.size → w'.heap[b]? = w.heap[b]?) : DuV lo w' v d := by
  rcases h with h | ⟨u, b, h1, h2, h3, h4⟩
  · exact .inl h
  · exact .inr ⟨u, b, h1, h2, h3, h4.of_block (hb b h3 h4.lt)⟩
theorem DuV.since {lo : Nat} {w w' : World} {v : Value} {d : Option Du} (h : DuV lo w v d) (hs : w.Since w.heap.size w') : DuV lo w' v d := h.on fun b _ hb => hs.block b hb
end Go.Proofs.YtdhhjdacidhmjaaGreat

/- Package settle: dueOf. -/
namespace Go.Proofs.YtdhhjdacidhmjaaGreat
open Go.RowKit
set_option maxRecDepth 100000
set_option maxRecDepth 100000

theorem ent_alloc (w : World) (e : Ent) : ∃ W, Hid (w.alloc (.cells #[.int .i64 e.p, .int .u64 (e.nu : Nat), .string (strL e.na), .int .u64 (e.am : Nat)] 82) = W) ∧ w.Since w.heap.size W ∧ W.rowIs w.heap.size 82 4 (entCell e) := by
  refine ⟨_, rfl, (World.Since.refl _ _).alloc (Nat.le_refl _) _, World.rowIs_alloc w _ _ _ (fun i hi => ?_)⟩
  have hi' : i < 4 := hi
  match i, hi' with
  | 0, _ => rfl
  | 1, _ => rfl
  | 2, _ => rfl
  | 3, _ => rfl
theorem du_alloc (w : World) (u : Du) : ∃ W, Hid (w.alloc (.cells #[.int .i64 u.e.p, .int .u64 (u.e.nu : Nat), .string (strL u.e.na), .int .u64 (u.e.am : Nat), .int .u64 (u.le : Nat)] 128) = W) ∧ w.Since w.heap.size W ∧ W.rowIs w.heap.size 128 5 (duCell u) := by
  refine ⟨_, rfl, (World.Since.refl _ _).alloc (Nat.le_refl _) _, World.rowIs_alloc w _ _ _ (fun i hi => ?_)⟩
  have hi' : i < 5 := hi
  match i, hi' with
  | 0, _ => rfl
  | 1, _ => rfl
  | 2, _ => rfl
  | 3, _ => rfl
  | 4, _ => rfl
theorem du_set {w : World} {b : Nat} {u : Du} (h : w.rowIs b 128 5 (duCell u)) (x : Nat) : (w.setCell ⟨b, 4, none⟩ (.int .u64 (x : Nat))).rowIs b 128 5 (duCell ⟨u.e, x⟩) :=
  (h.set 4 _).congr (fun i hi => by
    match i, hi with
    | 0, _ => rfl
    | 1, _ => rfl
    | 2, _ => rfl
    | 3, _ => rfl
    | 4, _ => rfl)
theorem setNewS {B : Nat} {w w' : World} (h : w.Since B w') {b i : Nat} (hb : B ≤ b) (v : Value) : w.Since B (w'.setCell ⟨b, i, none⟩ v) :=
  ⟨h.os, h.tape, h.output, by have := h.size; simpa [World.setCell] using this, fun k hk => (Below.heap_setCell _ _ _ _ (by show k ≠ b; omega)).trans (h.block k hk)⟩
set_option maxHeartbeats 8000000 in
theorem dueOf_any {w : World} {qa : Option Addr} {qc : Nat} {l : List Ent} (h : QIn w qa l) (hl : l.length ≤ 4000000000000) (q : Int) :
    Calls Tryz.prog 38 #[.slice qa l.length qc, .int .i64 q] w fun e w' => ∃ v, e = .returned v ∧ DuV w.heap.size w' v (dueM l q) ∧ w.Since w.heap.size w' := by
  obtain ⟨L, hL⟩ : ∃ L, l.length = L := ⟨_, rfl⟩
  have HX0 : Hid (DuV w.heap.size w (.pointer none) (dueM (l.take 0) q) ∧ w.Since w.heap.size w) := ⟨.inl ⟨by simp [dueM], rfl⟩, World.Since.refl _ _⟩
  have HQ := hide h
  have HL := hide hL
  have HB := hide hl
  rw [hL]
  clear h hL hl
  go_enter Tryz.func38, Tryz.ntmps38
  go_wp2_with fail
  go_loopg [5, 10] L (fun k s5 s10 wx => ∃ (j : Nat) (P : Option Addr), j ≤ L ∧ k = L - j ∧ s5 = .pointer P ∧ s10 = .int .i64 (j : Nat) ∧ Hid (DuV w.heap.size wx (.pointer P) (dueM (l.take j) q) ∧ w.Since w.heap.size wx))
  case atStart => exact ⟨0, none, Nat.zero_le _, rfl, rfl, rfl, HX0⟩
  case round =>
    clear HX0
    obtain ⟨j, P, hj, rfl, rfl, rfl, HX⟩ := hrel
    by_cases hlt : j < L
    · have z1 : (j : Int) < (L : Int) := by omega
      have z0 : (0 : Int) ≤ (j : Int) := by omega
      have hwi : IntKind.i64.wrap ((j : Int) + 1) = (j : Int) + 1 := by have := HL.out; have := HB.out; rw [IntKind.wrap_i64]; omega
      have hme : L - (j + 1) < L - j := by omega
      have HJ := hide hlt
      obtain ⟨e, he⟩ : ∃ e, l[j]? = some e := ⟨_, List.getElem?_eq_getElem (by have := HL.out; omega)⟩
      obtain ⟨b, o, rfl, hrg, hbl⟩ := (HQ.out.since HX.out.2).at' j e he
      have c0 : wr.cell? ⟨b, o + j * 4, none⟩ = some (.int .i64 e.p) := hrg 0 _ rfl
      have c1 : wr.cell? ⟨b, o + j * 4 + 1, none⟩ = some (.int .u64 (e.nu : Nat)) := hrg 1 _ rfl
      have c2 : wr.cell? ⟨b, o + j * 4 + 2, none⟩ = some (.string (strL e.na)) := hrg 2 _ rfl
      have c3 : wr.cell? ⟨b, o + j * 4 + 3, none⟩ = some (.int .u64 (e.am : Nat)) := hrg 3 _ rfl
      obtain ⟨W1, HW1, s1, r1⟩ := ent_alloc wr e
      obtain ⟨eb, HEB⟩ : ∃ x, Hid (wr.heap.size = x) := ⟨_, rfl⟩
      have p0 : W1.cell? ⟨wr.heap.size, 0, none⟩ = some (.int .i64 e.p) := r1.cell (i := 0) (by decide)
      have p1 : W1.cell? ⟨wr.heap.size, 1, none⟩ = some (.int .u64 (e.nu : Nat)) := r1.cell (i := 1) (by decide)
      have p2 : W1.cell? ⟨wr.heap.size, 2, none⟩ = some (.string (strL e.na)) := r1.cell (i := 2) (by decide)
      have p3 : W1.cell? ⟨wr.heap.size, 3, none⟩ = some (.int .u64 (e.am : Nat)) := r1.cell (i := 3) (by decide)
      rw [HEB.out] at p0 p1 p2 p3
      have HST : Hid (dueM (l.take (j + 1)) q = stD q (dueM (l.take j) q) e) := dueM_take l q j e he
      have HS1 := hide (HX.out.2.trans (since_mono s1 HX.out.2.size))
      have HD1 := hide (HX.out.1.since s1)
      have HR1 := hide r1
      have HGE : Hid (w.heap.size ≤ eb) := by have := HX.out.2.size; have := HEB.out; show _ ≤ _; omega
      clear hrg hbl he s1 r1 HX hj hlt
      go_upto_region 5 with fail
      rw [HW1.out, HEB.out]
      clear HW1 c0 c1 c2 c3
      by_cases hp : e.p = q
      · have q0 : (e.p != q) = false := by simp [hp]
        obtain ⟨D, hD⟩ : ∃ D, dueM (l.take j) q = D := ⟨_, rfl⟩
        rw [hD] at HST HD1
        rcases HD1.out with ⟨hd, hv⟩ | ⟨u, db, hd, hv, hge, hr⟩
        · obtain rfl : P = none := Value.pointer.inj hv
          obtain ⟨W2, HW2, s2, r2⟩ := du_alloc W1 ⟨e, e.nu⟩
          obtain ⟨db, HDB⟩ : ∃ x, Hid (W1.heap.size = x) := ⟨_, rfl⟩
          have HZ : Hid (∀ q', Hid (DuV w.heap.size ((W2.drewN q').setCell ⟨db, 4, none⟩ (.int .u64 (e.nu : Nat))) (.pointer (some ⟨db, 0, none⟩)) (dueM (l.take (j + 1)) q) ∧ w.Since w.heap.size ((W2.drewN q').setCell ⟨db, 4, none⟩ (.int .u64 (e.nu : Nat))))) := fun q' => by
            have hs2 := HS1.out.trans (since_mono s2 HS1.out.size)
            have hs3 : w.Since w.heap.size (W2.drewN q') := ⟨hs2.os, hs2.tape, hs2.output, hs2.size, hs2.block⟩
            have r3 : (W2.drewN q').rowIs db 128 5 (duCell ⟨e, e.nu⟩) := by rw [← HDB.out]; exact r2.of_block rfl
            have hge : w.heap.size ≤ db := by rw [← HDB.out]; exact HS1.out.size
            refine ⟨?_, setNewS hs3 hge _⟩
            rw [HST.out, hd]
            refine .inr ⟨⟨e, e.nu⟩, db, ?_, rfl, hge, du_set r3 _⟩
            unfold stD
            rw [if_pos hp]
          have y1 : W2.cell? ⟨W1.heap.size, 1, none⟩ = some (.int .u64 (e.nu : Nat)) := r2.cell (i := 1) (by decide)
          have y4 : W2.cell? ⟨W1.heap.size, 4, none⟩ = some (.int .u64 (e.nu : Nat)) := r2.cell (i := 4) (by decide)
          have fz := r2.frozen 4
          rw [HDB.out] at y1 y4 fz
          have y4d : W2.drew.cell? ⟨db, 4, none⟩ = some (.int .u64 (e.nu : Nat)) := y4
          have fzd : W2.drew.frozen? ⟨db, 4, none⟩ = false := fz
          have n1 := cell_later s2 p1
          have n1d : W2.drew.cell? ⟨eb, 1, none⟩ = some (.int .u64 (e.nu : Nat)) := n1
          have nlt : ¬ (e.nu : Int) < (e.nu : Int) := by omega
          obtain ⟨p, hpv⟩ : ∃ x, e.p = x := ⟨_, rfl⟩
          obtain ⟨nu, hnu⟩ : ∃ x, e.nu = x := ⟨_, rfl⟩
          rw [hpv] at p0 q0 HW2
          rw [hnu] at p1 y1 y4 y4d n1 n1d nlt HW2 HZ
          clear hd hD hv hp hpv hnu r2 s2 HD1 HST HR1
          go_upto_region 8 with fail
          rw [HW2.out, HDB.out]
          clear HW2 HDB
          go_region
          all_goals
            go_wp2_with fail
            go_roundg (L - (j + 1))
            case measure => go_light; exact hme
            case rel => go_light; exact ⟨j + 1, _, HJ.out, rfl, rfl, by simp, (HZ.out 1).out⟩
        · obtain rfl : P = some ⟨db, 0, none⟩ := Value.pointer.inj hv
          have y4 : W1.cell? ⟨db, 4, none⟩ = some (.int .u64 (u.le : Nat)) := hr.cell (i := 4) (by decide)
          have fz := hr.frozen 4
          obtain ⟨mn, hmn, hmi⟩ : ∃ mn : Nat, min u.le e.nu = mn ∧ (if (e.nu : Int) < (u.le : Int) then (e.nu : Int) else (u.le : Int)) = (mn : Int) := ⟨min u.le e.nu, rfl, by split <;> omega⟩
          have HZ : Hid (∀ q', Hid (DuV w.heap.size ((W1.drewN q').setCell ⟨db, 4, none⟩ (.int .u64 (mn : Nat))) (.pointer (some ⟨db, 0, none⟩)) (dueM (l.take (j + 1)) q) ∧ w.Since w.heap.size ((W1.drewN q').setCell ⟨db, 4, none⟩ (.int .u64 (mn : Nat))))) := fun q' => by
            have hs3 : w.Since w.heap.size (W1.drewN q') := ⟨HS1.out.os, HS1.out.tape, HS1.out.output, HS1.out.size, HS1.out.block⟩
            have r3 : (W1.drewN q').rowIs db 128 5 (duCell u) := hr.of_block rfl
            refine ⟨?_, setNewS hs3 hge _⟩
            rw [HST.out, hd]
            refine .inr ⟨⟨u.e, mn⟩, db, ?_, rfl, hge, du_set r3 _⟩
            unfold stD
            rw [if_pos hp, ← hmn]
          have y4d : W1.drew.cell? ⟨db, 4, none⟩ = some (.int .u64 (u.le : Nat)) := y4
          have fzd : W1.drew.frozen? ⟨db, 4, none⟩ = false := fz
          have n1d : W1.drew.cell? ⟨eb, 1, none⟩ = some (.int .u64 (e.nu : Nat)) := p1
          obtain ⟨p, hpv⟩ : ∃ x, e.p = x := ⟨_, rfl⟩
          obtain ⟨nu, hnu⟩ : ∃ x, e.nu = x := ⟨_, rfl⟩
          obtain ⟨ul, hul⟩ : ∃ x, u.le = x := ⟨_, rfl⟩
          rw [hpv] at p0 q0
          rw [hnu] at p1 n1d hmi
          rw [hul] at y4 y4d hmi
          by_cases hm : (nu : Int) < (ul : Int)
          · rw [if_pos hm] at hmi
            have hmi' : nu = mn := by omega
            subst hmi'
            clear hd hD hv hp hpv hnu hul hr HD1 HST HR1 hmn hmi
            go_upto_region 8 with fail
            go_region
            all_goals
              go_wp2_with fail
              go_roundg (L - (j + 1))
              case measure => go_light; exact hme
              case rel => go_light; exact ⟨j + 1, _, HJ.out, rfl, rfl, by simp, (HZ.out 1).out⟩
          · rw [if_neg hm] at hmi
            have hmi' : ul = mn := by omega
            subst hmi'
            clear hd hD hv hp hpv hnu hul hr HD1 HST HR1 hmn hmi
            go_upto_region 8 with fail
            go_region
            all_goals
              go_wp2_with fail
              go_roundg (L - (j + 1))
              case measure => go_light; exact hme
              case rel => go_light; exact ⟨j + 1, _, HJ.out, rfl, rfl, by simp, (HZ.out 1).out⟩
      · have q0 : (e.p != q) = true := by simp [hp]
        have HZ : Hid (DuV w.heap.size W1 (.pointer P) (dueM (l.take (j + 1)) q) ∧ w.Since w.heap.size W1) := ⟨by rw [HST.out]; unfold stD; rw [if_neg hp]; exact HD1.out, HS1.out⟩
        obtain ⟨p, hpv⟩ : ∃ x, e.p = x := ⟨_, rfl⟩
        rw [hpv] at p0 q0
        clear hp hpv HD1 HST HR1
        go_wp2_with fail
        go_roundg (L - (j + 1))
        case measure => go_light; exact hme
        case rel => go_light; exact ⟨j + 1, P, HJ.out, rfl, rfl, by simp, HZ⟩
    · obtain rfl : j = L := by omega
      have z1 : ¬ (j : Int) < (j : Int) := by omega
      have HZ : Hid (DuV w.heap.size wr (.pointer P) (dueM l q) ∧ w.Since w.heap.size wr) := by
        have h := HX.out
        rw [← HL.out, List.take_length] at h
        exact h
      clear hj hlt HX
      go_wp2_with fail
      go_ret
      exact ⟨_, rfl, HZ.out⟩
end Go.Proofs.YtdhhjdacidhmjaaGreat

/- Package settle: a row's at; begins; next; tell. -/
namespace Go.Proofs.YtdhhjdacidhmjaaGreat
open Go.RowKit
set_option maxRecDepth 100000
set_option maxRecDepth 100000

/-- What a peer has. -/
theorem at_due {w : World} {b n c : Nat} {V : Nat → Value} (h : w.rowIs b 117 n V) (i : Nat) (hi : i < n) (P : Option Addr) (hp : V i = .pointer P) :
    Calls Tryz.prog 39 #[.slice (some ⟨b, 0, none⟩) n c, .int .i64 (i : Nat)] w fun e w' => e = .returned (.pointer P) ∧ w = w' := by
  have c0 := h.cell hi
  rw [hp] at c0
  have z0 : ¬ (i : Int) < 0 := by omega
  have z0' : (0 : Int) ≤ (i : Int) := by omega
  have z1 : ¬ (i : Int) ≥ (n : Int) := by omega
  have z2 : (i : Int) < (n : Int) := by omega
  clear h hi hp
  go_enter Tryz.func39, Tryz.ntmps39
  go_wp2_with fail
  go_ret
  exact ⟨rfl, rfl⟩
theorem at_due_out {w : World} {a : Option Addr} {n c : Nat} (q : Int) (h : q < 0 ∨ (n : Int) ≤ q) :
    Calls Tryz.prog 39 #[.slice a n c, .int .i64 q] w fun e w' => e = .returned (.pointer none) ∧ w = w' := by
  by_cases z : q < 0
  · clear h
    go_enter Tryz.func39, Tryz.ntmps39
    go_wp2_with fail
    go_ret
    exact ⟨rfl, rfl⟩
  · have z2 : q ≥ (n : Int) := by omega
    clear h
    go_enter Tryz.func39, Tryz.ntmps39
    go_wp2_with fail
    go_ret
    exact ⟨rfl, rfl⟩
/-- What a peer has. -/
theorem at_road {w : World} {b n c : Nat} {V : Nat → Value} (h : w.rowIs b 68 n V) (i : Nat) (hi : i < n) (P : Option Addr) (hp : V i = .pointer P) :
    Calls Tryz.prog 41 #[.slice (some ⟨b, 0, none⟩) n c, .int .i64 (i : Nat)] w fun e w' => e = .returned (.pointer P) ∧ w = w' := by
  have c0 := h.cell hi
  rw [hp] at c0
  have z0 : ¬ (i : Int) < 0 := by omega
  have z0' : (0 : Int) ≤ (i : Int) := by omega
  have z1 : ¬ (i : Int) ≥ (n : Int) := by omega
  have z2 : (i : Int) < (n : Int) := by omega
  clear h hi hp
  go_enter Tryz.func41, Tryz.ntmps41
  go_wp2_with fail
  go_ret
  exact ⟨rfl, rfl⟩
theorem at_road_out {w : World} {a : Option Addr} {n c : Nat} (q : Int) (h : q < 0 ∨ (n : Int) ≤ q) :
    Calls Tryz.prog 41 #[.slice a n c, .int .i64 q] w fun e w' => e = .returned (.pointer none) ∧ w = w' := by
  by_cases z : q < 0
  · clear h
    go_enter Tryz.func41, Tryz.ntmps41
    go_wp2_with fail
    go_ret
    exact ⟨rfl, rfl⟩
  · have z2 : q ≥ (n : Int) := by omega
    clear h
    go_enter Tryz.func41, Tryz.ntmps41
    go_wp2_with fail
    go_ret
    exact ⟨rfl, rfl⟩
/-- What is due, in memory. -/
def DuP (w : World) (P : Option Addr) (d : Option Du) : Prop := (d = none ∧ P = none) ∨ ∃ u b, d = some u ∧ P = some ⟨b, 0, none⟩ ∧ w.rowIs b 128 5 (duCell u)
def begM (d was : Option Du) : Bool := match d with | none => false | some u => match was with | none => true | some v => decide (v.e.nu ≠ u.e.nu)
theorem begins_any {w : World} {P Q : Option Addr} {d was : Option Du} (h : DuP w P d) (h2 : DuP w Q was) :
    Calls Tryz.prog 40 #[.pointer P, .pointer Q] w fun e w' => e = .returned (.bool (begM d was)) ∧ ∃ k, w' = w.drewN k := by
  rcases h with ⟨rfl, rfl⟩ | ⟨u, b, rfl, rfl, hr⟩
  · clear h2
    go_enter Tryz.func40, Tryz.ntmps40
    go_upto_region 1 with fail
    go_quiet (fail)
    go_wp2_with fail
    go_ret
    exact ⟨rfl, _, rfl⟩
  · rcases h2 with ⟨rfl, rfl⟩ | ⟨v, b2, rfl, rfl, hr2⟩
    · clear hr
      go_enter Tryz.func40, Tryz.ntmps40
      go_upto_region 1 with fail
      go_quiet (fail)
      go_wp2_with fail
      go_ret
      exact ⟨rfl, _, rfl⟩
    · have c1 : w.cell? ⟨b, 1, none⟩ = some (.int .u64 (u.e.nu : Nat)) := hr.cell (i := 1) (by decide)
      have c2 : w.cell? ⟨b2, 1, none⟩ = some (.int .u64 (v.e.nu : Nat)) := hr2.cell (i := 1) (by decide)
      have e1 : begM (some u) (some v) = ((v.e.nu : Int) != (u.e.nu : Int)) := by
        show decide (v.e.nu ≠ u.e.nu) = _
        by_cases q : v.e.nu = u.e.nu
        · rw [q]; simp
        · have q2 : ¬ (v.e.nu : Int) = (u.e.nu : Int) := by omega
          simp [q, q2]
      rw [e1]
      obtain ⟨x, hx⟩ : ∃ x, u.e.nu = x := ⟨_, rfl⟩
      obtain ⟨y, hy⟩ : ∃ y, v.e.nu = y := ⟨_, rfl⟩
      rw [hx] at c1 ⊢
      rw [hy] at c2 ⊢
      clear e1 hx hy hr hr2
      go_enter Tryz.func40, Tryz.ntmps40
      go_upto_region 1 with fail
      go_quiet (fail)
      go_wp2_with fail
      go_ret
      exact ⟨rfl, _, rfl⟩
/-- A road: its pace, its copies, its turn. -/
def rdCell (pb cb c cap t : Nat) (i : Nat) : Value := if i = 0 then .pointer (some ⟨pb, 0, none⟩) else if i = 1 then .slice (some ⟨cb, 0, none⟩) c cap else .int .i64 (t : Nat)
theorem rd_set {w : World} {b pb cb c cap t : Nat} (h : w.rowIs b 115 3 (rdCell pb cb c cap t)) (x : Nat) : (w.setCell ⟨b, 2, none⟩ (.int .i64 (x : Nat))).rowIs b 115 3 (rdCell pb cb c cap x) :=
  (h.set 2 _).congr (fun i hi => by
    match i, hi with
    | 0, _ => rfl
    | 1, _ => rfl
    | 2, _ => rfl)
set_option maxHeartbeats 4000000 in
theorem next_any {w : World} {b pb cb c cap t : Nat} (h : w.rowIs b 115 3 (rdCell pb cb c cap t)) (ht : t < c) (hc : c ≤ 1000) (x : Int) (hx : w.cell? ⟨cb, t, none⟩ = some (.int .i64 x)) :
    Calls Tryz.prog 47 #[.pointer (some ⟨b, 0, none⟩)] w fun e w' => e = .returned (.int .i64 x) ∧ ∃ k, w' = (w.drewN k).setCell ⟨b, 2, none⟩ (.int .i64 ((t + 1) % c : Nat)) := by
  have c1 : w.cell? ⟨b, 1, none⟩ = some (.slice (some ⟨cb, 0, none⟩) c cap) := h.cell (i := 1) (by decide)
  have c2 : w.cell? ⟨b, 2, none⟩ = some (.int .i64 (t : Nat)) := h.cell (i := 2) (by decide)
  have fz : w.frozen? ⟨b, 2, none⟩ = false := h.frozen 2
  have c1d : w.drew.cell? ⟨b, 1, none⟩ = some (.slice (some ⟨cb, 0, none⟩) c cap) := c1
  have c2d : w.drew.cell? ⟨b, 2, none⟩ = some (.int .i64 (t : Nat)) := c2
  have c1e : w.drew.drew.cell? ⟨b, 1, none⟩ = some (.slice (some ⟨cb, 0, none⟩) c cap) := c1
  have c2e : w.drew.drew.cell? ⟨b, 2, none⟩ = some (.int .i64 (t : Nat)) := c2
  have fzd : w.drew.drew.frozen? ⟨b, 2, none⟩ = false := fz
  have hxd : w.drew.cell? ⟨cb, t, none⟩ = some (.int .i64 x) := hx
  have z1 : (t : Int) < (c : Int) := by omega
  have z0 : (0 : Int) ≤ (t : Int) := by omega
  obtain ⟨s, hs, hs2⟩ : ∃ s : Nat, (t : Int) + 1 = (s : Int) ∧ s = t + 1 := ⟨t + 1, by omega, rfl⟩
  have ws : IntKind.i64.wrap (s : Int) = (s : Int) := by rw [IntKind.wrap_i64]; omega
  obtain ⟨r, hr, hr2⟩ : ∃ r : Nat, (s : Int).tmod (c : Int) = (r : Int) ∧ r = (t + 1) % c := ⟨(t + 1) % c, by rw [hs2]; exact (Int.ofNat_tmod _ _).symm, rfl⟩
  have hrl : r < c := by rw [hr2]; exact Nat.mod_lt _ (by omega)
  have wr' : IntKind.i64.wrap (r : Int) = (r : Int) := by rw [IntKind.wrap_i64]; omega
  have zc : ¬ (c : Int) = 0 := by omega
  have zc' : ((c : Int) == 0) = false := by simp; omega
  rw [← hr2]
  clear h ht hc hs2 hr2 hrl
  go_enter Tryz.func47, Tryz.ntmps47
  go_upto_region 1 with fail
  go_quiet (fail)
  have d1 : (w.drewN nq).drew.cell? ⟨b, 1, none⟩ = some (.slice (some ⟨cb, 0, none⟩) c cap) := c1
  have d2 : (w.drewN nq).drew.cell? ⟨b, 2, none⟩ = some (.int .i64 (t : Nat)) := c2
  have d3 : (w.drewN nq).drew.frozen? ⟨b, 2, none⟩ = false := fz
  go_upto_region 2 with fail
  go_region
  all_goals
    go_wp2_with fail
    go_ret
    exact ⟨rfl, nq + 1, rfl⟩
/-- A message that settles an entry. -/
def telG (node shard : Int) (e : Ent) (tn : Int) : Mg := ⟨fun c => if c = 0 then 8 else if c = 1 then node else if c = 2 then tn else if c = 3 then shard else if c = 11 then e.p else if c = 12 then e.nu else if c = 15 then e.am else 0, fun c => if c = 13 then e.na else []⟩
def sCell (node shard : Int) (Rb n : Nat) (dv : Value) (i : Nat) : Value := if i = 0 then .int .i64 node else if i = 1 then .int .i64 shard else if i = 2 then .slice (some ⟨Rb, 0, none⟩) n n else dv
theorem telG_v (node shard : Int) (e : Ent) (tn : Int) : mgV (telG node shard e tn) none 0 = .agg #[.int .i64 8, .int .i64 node, .int .i64 tn, .int .i64 shard, .int .u64 0, .int .u64 0, .int .u64 0, .int .u64 0, .int .i64 0, .int .u64 0, .slice none 0 0, .int .i64 e.p, .int .u64 (e.nu : Nat), .string (strL e.na), .string (strL []), .int .u64 (e.am : Nat), .int .u64 0, .int .u64 0, .int .i64 0, .int .i64 0, .int .i64 0, .int .i64 0] := rfl
set_option maxHeartbeats 4000000 in
theorem tell_any {w : World} {b Rb n : Nat} {dv : Value} {node shard : Int} (h : w.rowIs b 75 4 (sCell node shard Rb n dv)) (e : Ent) (tn : Int) :
    Calls Tryz.prog 46 #[.pointer (some ⟨b, 0, none⟩), .agg #[.int .i64 e.p, .int .u64 (e.nu : Nat), .string (strL e.na), .int .u64 (e.am : Nat)], .int .i64 tn] w fun e' w' => e' = .returned (mgV (telG node shard e tn) none 0) ∧ w.Since w.heap.size w' := by
  have c0 : w.cell? ⟨b, 0, none⟩ = some (.int .i64 node) := h.cell (i := 0) (by decide)
  have c1 : w.cell? ⟨b, 1, none⟩ = some (.int .i64 shard) := h.cell (i := 1) (by decide)
  obtain ⟨W1, HW1, s1, r1⟩ := ent_alloc w e
  obtain ⟨W2, HW2⟩ : ∃ W, Hid (W1.alloc mgZ = W) := ⟨_, rfl⟩
  have r2 : W2.rowIs W1.heap.size 108 22 (mgCell mg0 none 0) := by rw [← HW2.out]; exact mgZ_row W1
  have s2 : W1.Since W1.heap.size W2 := by rw [← HW2.out]; exact (World.Since.refl _ _).alloc (Nat.le_refl _) _
  have dS : W2.Since W2.heap.size W2.drew := (World.Since.refl _ _).drew
  obtain ⟨W3, HW3, r3, h3, z3, b3, o3, t3, q3⟩ := mg_stored (r2.of_block (w' := W2.drew) rfl) (telG node shard e tn) none 0
  have HSN : Hid (w.Since w.heap.size W3) := by
    have s13 := s1.trans (since_mono s2 s1.size)
    have hz : w.heap.size ≤ W1.heap.size := s1.size
    exact ⟨o3.trans s13.os, t3.trans s13.tape, q3.trans s13.output, by rw [z3]; exact s13.size, fun k hk => (b3 k (by omega)).trans (s13.block k hk)⟩
  have HTH : Hid (W2.drew.there W1.heap.size 0 (mgL (telG node shard e tn) none 0).toArray.size) := by
    have hms : (mgL (telG node shard e tn) none 0).toArray.size = 22 := by rw [List.size_toArray, mgL_len]
    show World.there _ _ _ _
    rw [hms]
    exact row_there (r2.of_block (w' := W2.drew) rfl)
  have k0 : W2.cell? ⟨b, 0, none⟩ = some (.int .i64 node) := cell_later s2 (cell_later s1 c0)
  have k1 : W2.cell? ⟨b, 1, none⟩ = some (.int .i64 shard) := cell_later s2 (cell_later s1 c1)
  have e0 : W2.cell? ⟨w.heap.size, 0, none⟩ = some (.int .i64 e.p) := cell_later s2 (r1.cell (i := 0) (by decide))
  have e1 : W2.cell? ⟨w.heap.size, 1, none⟩ = some (.int .u64 (e.nu : Nat)) := cell_later s2 (r1.cell (i := 1) (by decide))
  have e2 : W2.cell? ⟨w.heap.size, 2, none⟩ = some (.string (strL e.na)) := cell_later s2 (r1.cell (i := 2) (by decide))
  have e3 : W2.cell? ⟨w.heap.size, 3, none⟩ = some (.int .u64 (e.am : Nat)) := cell_later s2 (r1.cell (i := 3) (by decide))
  have hz1 : W1.heap.size = w.heap.size + 1 := by rw [← HW1.out]; simp
  have HH3 := hide h3
  have HZ1 := hide hz1
  obtain ⟨eb, HEB⟩ : ∃ x, Hid (w.heap.size = x) := ⟨_, rfl⟩
  obtain ⟨mb, HMB⟩ : ∃ x, Hid (W1.heap.size = x) := ⟨_, rfl⟩
  rw [HEB.out] at e0 e1 e2 e3
  rw [HMB.out] at HTH HW3 HH3 HZ1
  rw [HEB.out] at HZ1
  have HS0 : Hid (W2.drew.cell? ⟨b, 0, none⟩ = some (.int .i64 node) ∧ W2.drew.cell? ⟨b, 1, none⟩ = some (.int .i64 shard) ∧ W2.drew.cell? ⟨eb, 0, none⟩ = some (.int .i64 e.p) ∧ W2.drew.cell? ⟨eb, 1, none⟩ = some (.int .u64 (e.nu : Nat)) ∧ W2.drew.cell? ⟨eb, 2, none⟩ = some (.string (strL e.na)) ∧ W2.drew.cell? ⟨eb, 3, none⟩ = some (.int .u64 (e.am : Nat))) := ⟨k0, k1, e0, e1, e2, e3⟩
  have HS3 : Hid (W3.cell? ⟨b, 0, none⟩ = some (.int .i64 node) ∧ W3.cell? ⟨b, 1, none⟩ = some (.int .i64 shard) ∧ W3.cell? ⟨eb, 0, none⟩ = some (.int .i64 e.p) ∧ W3.cell? ⟨eb, 1, none⟩ = some (.int .u64 (e.nu : Nat)) ∧ W3.cell? ⟨eb, 2, none⟩ = some (.string (strL e.na)) ∧ W3.cell? ⟨eb, 3, none⟩ = some (.int .u64 (e.am : Nat))) := by
    have hlb : b < w.heap.size := h.lt
    have he := HEB.out
    have hb : ∀ i v, W2.drew.cell? ⟨b, i, none⟩ = some v → W3.cell? ⟨b, i, none⟩ = some v := fun i v q => by rw [World.cell?_of_block (a := ⟨b, i, none⟩) (b3 b (by omega))]; exact q
    have hc : ∀ i v, W2.drew.cell? ⟨eb, i, none⟩ = some v → W3.cell? ⟨eb, i, none⟩ = some v := fun i v q => by rw [World.cell?_of_block (a := ⟨eb, i, none⟩) (b3 eb (by omega))]; exact q
    exact ⟨hb _ _ k0, hb _ _ k1, hc _ _ e0, hc _ _ e1, hc _ _ e2, hc _ _ e3⟩
  clear h c0 c1 s1 r1 r2 s2 dS r3 h3 z3 b3 o3 t3 q3 hz1
  unfold mgZ at HW2
  go_enter Tryz.func46, Tryz.ntmps46
  go_upto_region 1 with fail
  rw [HW1.out]
  try rw [HW2.out]
  try rw [HEB.out]
  rw [← HZ1.out]
  refine wp_region_held_drew (S := fun W => W.cell? ⟨b, 0, none⟩ = some (.int .i64 node) ∧ W.cell? ⟨b, 1, none⟩ = some (.int .i64 shard) ∧ W.cell? ⟨eb, 0, none⟩ = some (.int .i64 e.p) ∧ W.cell? ⟨eb, 1, none⟩ = some (.int .u64 (e.nu : Nat)) ∧ W.cell? ⟨eb, 2, none⟩ = some (.string (strL e.na)) ∧ W.cell? ⟨eb, 3, none⟩ = some (.int .u64 (e.am : Nat))) (by kernel_rfl) HS0.out fun _ => ?_
  refine wpAnyH_take (i := 0) (v := .pointer (some ⟨b, 0, none⟩)) rfl (by kernel_rfl) (by kernel_rfl) (by kernel_rfl) (fun _ _ _ h => h) (.inl ⟨rfl, fun W hW => by kernel_rfl⟩) HS0.out ?_
  simp only [List.getElem_toArray, List.getElem_cons_zero, Act.put, List.setIfInBounds_toArray, List.set_cons_zero, List.set_cons_succ]
  refine wpAnyH_take (i := 1) (v := .pointer (some ⟨b, 0, none⟩)) rfl (by kernel_rfl) (by kernel_rfl) (by kernel_rfl) (fun _ _ _ h => h) (.inl ⟨rfl, fun W hW => by first | kernel_rfl | go_simp⟩) HS0.out ?_
  simp only [List.getElem_toArray, List.getElem_cons_zero, List.getElem_cons_succ, Act.put, List.setIfInBounds_toArray, List.set_cons_zero, List.set_cons_succ]
  refine wpAnyH_take (i := 2) (v := .pointer (some ⟨b, 0, none⟩)) rfl (by kernel_rfl) (by kernel_rfl) (by kernel_rfl) (fun _ _ _ h => h) (.inl ⟨rfl, fun W hW => by kernel_rfl⟩) HS0.out ?_
  simp only [List.getElem_toArray, List.getElem_cons_zero, List.getElem_cons_succ, Act.put, List.setIfInBounds_toArray, List.set_cons_zero, List.set_cons_succ]
  refine wpAnyH_take (i := 3) (v := .int .i64 node) rfl (by kernel_rfl) (by kernel_rfl) (by kernel_rfl) (fun _ _ _ h => h) (.inl ⟨rfl, fun W hW => by have c := hW.1; go_simp⟩) HS0.out ?_
  simp only [List.getElem_toArray, List.getElem_cons_zero, List.getElem_cons_succ, Act.put, List.setIfInBounds_toArray, List.set_cons_zero, List.set_cons_succ]
  refine wpAnyH_take (i := 4) (v := .int .i64 tn) rfl (by kernel_rfl) (by kernel_rfl) (by kernel_rfl) (fun _ _ _ h => h) (.inl ⟨rfl, fun W hW => by kernel_rfl⟩) HS0.out ?_
  simp only [List.getElem_toArray, List.getElem_cons_zero, List.getElem_cons_succ, Act.put, List.setIfInBounds_toArray, List.set_cons_zero, List.set_cons_succ]
  refine wpAnyH_take (i := 5) (v := .pointer (some ⟨b, 0, none⟩)) rfl (by kernel_rfl) (by kernel_rfl) (by kernel_rfl) (fun _ _ _ h => h) (.inl ⟨rfl, fun W hW => by kernel_rfl⟩) HS0.out ?_
  simp only [List.getElem_toArray, List.getElem_cons_zero, List.getElem_cons_succ, Act.put, List.setIfInBounds_toArray, List.set_cons_zero, List.set_cons_succ]
  refine wpAnyH_take (i := 6) (v := .pointer (some ⟨b, 0, none⟩)) rfl (by kernel_rfl) (by kernel_rfl) (by kernel_rfl) (fun _ _ _ h => h) (.inl ⟨rfl, fun W hW => by first | kernel_rfl | go_simp⟩) HS0.out ?_
  simp only [List.getElem_toArray, List.getElem_cons_zero, List.getElem_cons_succ, Act.put, List.setIfInBounds_toArray, List.set_cons_zero, List.set_cons_succ]
  refine wpAnyH_take (i := 7) (v := .pointer (some ⟨b, 1, none⟩)) rfl (by kernel_rfl) (by kernel_rfl) (by kernel_rfl) (fun _ _ _ h => h) (.inl ⟨rfl, fun W hW => by kernel_rfl⟩) HS0.out ?_
  simp only [List.getElem_toArray, List.getElem_cons_zero, List.getElem_cons_succ, Act.put, List.setIfInBounds_toArray, List.set_cons_zero, List.set_cons_succ]
  refine wpAnyH_take (i := 8) (v := .int .i64 shard) rfl (by kernel_rfl) (by kernel_rfl) (by kernel_rfl) (fun _ _ _ h => h) (.inl ⟨rfl, fun W hW => by have c := hW.2.1; go_simp⟩) HS0.out ?_
  simp only [List.getElem_toArray, List.getElem_cons_zero, List.getElem_cons_succ, Act.put, List.setIfInBounds_toArray, List.set_cons_zero, List.set_cons_succ]
  refine wpAnyH_take (i := 9) (v := .agg #[.int .i64 8, .int .i64 node, .int .i64 tn, .int .i64 shard]) rfl (by kernel_rfl) (by kernel_rfl) (by kernel_rfl) (fun _ _ _ h => h) (.inl ⟨rfl, fun W hW => by kernel_rfl⟩) HS0.out ?_
  simp only [List.getElem_toArray, List.getElem_cons_zero, List.getElem_cons_succ, Act.put, List.setIfInBounds_toArray, List.set_cons_zero, List.set_cons_succ]
  refine wpAnyH_take (i := 10) (v := .pointer (some ⟨eb, 0, none⟩)) rfl (by kernel_rfl) (by kernel_rfl) (by kernel_rfl) (fun _ _ _ h => h) (.inl ⟨rfl, fun W hW => by kernel_rfl⟩) HS0.out ?_
  simp only [List.getElem_toArray, List.getElem_cons_zero, List.getElem_cons_succ, Act.put, List.setIfInBounds_toArray, List.set_cons_zero, List.set_cons_succ]
  refine wpAnyH_take (i := 11) (v := .int .i64 e.p) rfl (by kernel_rfl) (by kernel_rfl) (by kernel_rfl) (fun _ _ _ h => h) (.inl ⟨rfl, fun W hW => by have c := hW.2.2.1; go_simp⟩) HS0.out ?_
  simp only [List.getElem_toArray, List.getElem_cons_zero, List.getElem_cons_succ, Act.put, List.setIfInBounds_toArray, List.set_cons_zero, List.set_cons_succ]
  refine wpAnyH_take (i := 12) (v := .pointer (some ⟨eb, 1, none⟩)) rfl (by kernel_rfl) (by kernel_rfl) (by kernel_rfl) (fun _ _ _ h => h) (.inl ⟨rfl, fun W hW => by kernel_rfl⟩) HS0.out ?_
  simp only [List.getElem_toArray, List.getElem_cons_zero, List.getElem_cons_succ, Act.put, List.setIfInBounds_toArray, List.set_cons_zero, List.set_cons_succ]
  refine wpAnyH_take (i := 13) (v := .int .u64 (e.nu : Nat)) rfl (by kernel_rfl) (by kernel_rfl) (by kernel_rfl) (fun _ _ _ h => h) (.inl ⟨rfl, fun W hW => by have c := hW.2.2.2.1; go_simp⟩) HS0.out ?_
  simp only [List.getElem_toArray, List.getElem_cons_zero, List.getElem_cons_succ, Act.put, List.setIfInBounds_toArray, List.set_cons_zero, List.set_cons_succ]
  refine wpAnyH_take (i := 14) (v := .pointer (some ⟨eb, 2, none⟩)) rfl (by kernel_rfl) (by kernel_rfl) (by kernel_rfl) (fun _ _ _ h => h) (.inl ⟨rfl, fun W hW => by kernel_rfl⟩) HS0.out ?_
  simp only [List.getElem_toArray, List.getElem_cons_zero, List.getElem_cons_succ, Act.put, List.setIfInBounds_toArray, List.set_cons_zero, List.set_cons_succ]
  refine wpAnyH_take (i := 15) (v := .string (strL e.na)) rfl (by kernel_rfl) (by kernel_rfl) (by kernel_rfl) (fun _ _ _ h => h) (.inl ⟨rfl, fun W hW => by have c := hW.2.2.2.2.1; go_simp⟩) HS0.out ?_
  simp only [List.getElem_toArray, List.getElem_cons_zero, List.getElem_cons_succ, Act.put, List.setIfInBounds_toArray, List.set_cons_zero, List.set_cons_succ]
  refine wpAnyH_take (i := 16) (v := .pointer (some ⟨eb, 3, none⟩)) rfl (by kernel_rfl) (by kernel_rfl) (by kernel_rfl) (fun _ _ _ h => h) (.inl ⟨rfl, fun W hW => by kernel_rfl⟩) HS0.out ?_
  simp only [List.getElem_toArray, List.getElem_cons_zero, List.getElem_cons_succ, Act.put, List.setIfInBounds_toArray, List.set_cons_zero, List.set_cons_succ]
  refine wpAnyH_take (i := 17) (v := .int .u64 (e.am : Nat)) rfl (by kernel_rfl) (by kernel_rfl) (by kernel_rfl) (fun _ _ _ h => h) (.inl ⟨rfl, fun W hW => by have c := hW.2.2.2.2.2; go_simp⟩) HS0.out ?_
  simp only [List.getElem_toArray, List.getElem_cons_zero, List.getElem_cons_succ, Act.put, List.setIfInBounds_toArray, List.set_cons_zero, List.set_cons_succ]
  refine wpAnyH_take (i := 18) (v := mgV (telG node shard e tn) none 0) rfl (by kernel_rfl) (by kernel_rfl) (by kernel_rfl) (fun _ _ _ h => h) (.inl ⟨rfl, fun W hW => by rw [telG_v]; kernel_rfl⟩) HS0.out ?_
  simp only [List.getElem_toArray, List.getElem_cons_zero, List.getElem_cons_succ, Act.put, List.setIfInBounds_toArray, List.set_cons_zero, List.set_cons_succ]
  refine wpAnyH_ready (rs := [19]) (by kernel_rfl) (by simp) ?_
  refine AllReadyH.cons rfl (fun K hK => ?_) AllReadyH.nil
  refine step_storeM rfl (wp_store_mid 108 (.tmp 6) (.tmp 25) rfl mb 0 (mgL (telG node shard e tn) none 0).toArray rfl rfl HTH.out (infoMgA _ _ _) (mg_all _ _ _) ?_)
  rw [show (mgL (telG node shard e tn) none 0).toArray.toList = mgL (telG node shard e tn) none 0 from rfl, HW3.out]
  refine hK.out _ _ ?_ fun _ => ?_
  · exact HS3.out
  simp only [List.getElem_toArray, List.getElem_cons_zero, List.getElem_cons_succ, Act.put]
  refine wpAnyH_done (by kernel_rfl) ?_ _
  go_wp2_with fail
  exact bodyPost_ret_by (results_cell_row rfl _ _ mb 108 _ (0, 0) _ rfl HH3.out Tryz.underlying108 rfl (infoMgA _ _ _)) rfl ⟨rfl, HSN.out⟩
end Go.Proofs.YtdhhjdacidhmjaaGreat

/- Package settle: a Settle as plain data and in memory; Wants, Stop. -/
namespace Go.Proofs.YtdhhjdacidhmjaaGreat
open Go.RowKit
set_option maxRecDepth 100000
set_option maxRecDepth 100000

/-- A step that turns nothing but what is of the colours from lo on, below hi. -/
structure ChR (lo hi : Nat) (O O' : Nat → Nat) (w w' : World) : Prop where
  os : w'.os = w.os
  tape : w'.tape = w.tape
  output : w'.output = w.output
  size : w.heap.size ≤ w'.heap.size
  col : ∀ k, k < w.heap.size → O' k = O k
  block : ∀ k, k < w.heap.size → (O k < lo ∨ hi ≤ O k) → w'.heap[k]? = w.heap[k]?
section
variable {lo hi x c : Nat} {O O' O'' : Nat → Nat} {w w' w'' : World}
theorem ChR.refl : ChR lo hi O O w w := ⟨rfl, rfl, rfl, Nat.le_refl _, fun _ _ => rfl, fun _ _ _ => rfl⟩
theorem ChR.since (h : w.Since w.heap.size w') : ChR lo hi O O w w' := ⟨h.os, h.tape, h.output, h.size, fun _ _ => rfl, fun k hk _ => h.block k hk⟩
theorem ChR.of (h : Ch x O O' w w') (h1 : lo ≤ x) (h2 : x < hi) : ChR lo hi O O' w w' := ⟨h.os, h.tape, h.output, h.size, h.col, fun k hk hn => h.block k hk (by omega)⟩
theorem ChR.trans (h : ChR lo hi O O' w w') (k : ChR lo hi O' O'' w' w'') : ChR lo hi O O'' w w'' :=
  ⟨k.os.trans h.os, k.tape.trans h.tape, k.output.trans h.output, Nat.le_trans h.size k.size, fun i hi => (k.col i (Nat.lt_of_lt_of_le hi h.size)).trans (h.col i hi), fun i hi hn => (k.block i (Nat.lt_of_lt_of_le hi h.size) (by rw [h.col i hi]; exact hn)).trans (h.block i hi hn)⟩
theorem ChR.wide {lo' hi' : Nat} (h : ChR lo hi O O' w w') (h1 : lo' ≤ lo) (h2 : hi ≤ hi') : ChR lo' hi' O O' w w' := ⟨h.os, h.tape, h.output, h.size, h.col, fun k hk hn => h.block k hk (by omega)⟩
theorem RowC.keepR {b t n : Nat} {f : Nat → Value} (h : RowC O c w b t n f) (k : ChR lo hi O O' w w') (hx : c < lo ∨ hi ≤ c) : RowC O' c w' b t n f :=
  ⟨h.1.of_block (k.block b h.1.lt (by rw [h.2]; exact hx)), (k.col b h.1.lt).trans h.2⟩
theorem Li.keepR {t sz n : Nat} {v : Value} {f : Nat → Value} (h : Li O c w t sz v n f) (k : ChR lo hi O O' w w') (hx : c < lo ∨ hi ≤ c) : Li O' c w' t sz v n f := by
  obtain ⟨⟨h1, h2⟩, h3⟩ := h
  rcases h2 with ⟨hv, hn⟩ | ⟨b, cap, cur, hv, h4, h5, h6⟩
  · exact ⟨⟨h1, .inl ⟨hv, hn⟩⟩, fun b hb => by rw [hv] at hb; cases hb⟩
  · have hlt : b < w.heap.size := (Array.getElem?_eq_some_iff.1 h5).1
    have hc := h3 b (by rw [hv]; rfl)
    exact ⟨⟨h1, .inr ⟨b, cap, cur, hv, h4, (k.block b hlt (by rw [hc]; exact hx)).trans h5, h6⟩⟩, fun b' hb => by
      rw [hv] at hb
      obtain rfl : b = b' := Option.some.inj hb
      exact (k.col b hlt).trans hc⟩
end
/-- A Settle as plain data. -/
structure Sd where
  node : Int
  shard : Int
  n : Nat
  own : Nat
  m : Nat
  c : Nat
  cp : Nat → Nat → Int
  l : Nat → Nat
  g : Nat → Nat
  t : Nat → Nat
  du : Option (Nat → Option Du)
/-- Where it lies. -/
structure Sp where
  sb : Nat
  Rb : Nat
  Db : Nat
  rb : Nat → Nat
  pb : Nat → Nat
  cb : Nat → Nat
  cap : Nat → Nat
  dp : Nat → Option Addr
def dvM (p : Sp) (d : Sd) : Value := match d.du with | none => .slice none 0 0 | some _ => .slice (some ⟨p.Db, 0, none⟩) d.n d.n
def DuC (O : Nat → Nat) (c : Nat) (w : World) (P : Option Addr) (d : Option Du) : Prop := (d = none ∧ P = none) ∨ ∃ u b, d = some u ∧ P = some ⟨b, 0, none⟩ ∧ RowC O c w b 128 5 (duCell u)
theorem DuC.keepR {lo hi c : Nat} {O O' : Nat → Nat} {w w' : World} {P : Option Addr} {d : Option Du} (h : DuC O c w P d) (k : ChR lo hi O O' w w') (hx : c < lo ∨ hi ≤ c) : DuC O' c w' P d := by
  rcases h with h | ⟨u, b, h1, h2, h3⟩
  · exact .inl h
  · exact .inr ⟨u, b, h1, h2, h3.keepR k hx⟩
theorem DuC.keep {x c : Nat} {O O' : Nat → Nat} {w w' : World} {P : Option Addr} {d : Option Du} (h : DuC O c w P d) (k : Ch x O O' w w') (hx : c ≠ x) : DuC O' c w' P d := by
  rcases h with h | ⟨u, b, h1, h2, h3⟩
  · exact .inl h
  · exact .inr ⟨u, b, h1, h2, h3.keep k hx⟩
theorem DuC.p {c : Nat} {O : Nat → Nat} {w : World} {P : Option Addr} {d : Option Du} (h : DuC O c w P d) : DuP w P d := by
  rcases h with h | ⟨u, b, h1, h2, h3⟩
  · exact .inl h
  · exact .inr ⟨u, b, h1, h2, h3.1⟩
structure SIs (O : Nat → Nat) (q : Nat) (w : World) (p : Sp) (d : Sd) : Prop where
  row : RowC O q w p.sb 75 4 (sCell d.node d.shard p.Rb d.n (dvM p d))
  roads : RowC O (q + 1) w p.Rb 68 d.n (fun i => .pointer (if i = d.own then none else some ⟨p.rb i, 0, none⟩))
  rd : ∀ i, i < d.n → i ≠ d.own → RowC O (q + 10 + 3 * i) w (p.rb i) 115 3 (rdCell (p.pb i) (p.cb i) d.c (p.cap i) (d.t i))
  pc : ∀ i, i < d.n → i ≠ d.own → PcIs w (p.pb i) (d.l i) (d.g i) d.m ∧ O (p.pb i) = q + 11 + 3 * i
  cps : ∀ i, i < d.n → i ≠ d.own → Li O (q + 12 + 3 * i) w 3 1 (.slice (some ⟨p.cb i, 0, none⟩) d.c (p.cap i)) d.c (fun j => .int .i64 (d.cp i j))
  tl : ∀ i, i < d.n → i ≠ d.own → d.t i < d.c
  dues : ∀ f, d.du = some f → RowC O (q + 2) w p.Db 117 d.n (fun i => .pointer (p.dp i)) ∧ (∀ i, i < d.n → DuC O (q + 2) w (p.dp i) (f i)) ∧ f d.own = none
  lim : 1 ≤ d.n ∧ d.n ≤ 8 ∧ d.own < d.n ∧ 1 ≤ d.m ∧ d.m ≤ 64 ∧ 1 ≤ d.c ∧ d.c ≤ 7
section
variable {q lo hi x : Nat} {O O' : Nat → Nat} {w w' : World} {p : Sp} {d : Sd}
theorem SIs.keepR (h : SIs O q w p d) (k : ChR lo hi O O' w w') (hx : q + 40 ≤ lo ∨ hi ≤ q) : SIs O' q w' p d := by
  obtain ⟨_, l2, l3, _⟩ := h.lim
  exact ⟨h.row.keepR k (by omega), h.roads.keepR k (by omega), fun i hi ho => (h.rd i hi ho).keepR k (by omega), fun i hi ho => ⟨(h.pc i hi ho).1.later (k.block _ (h.pc i hi ho).1.row.lt (by rw [(h.pc i hi ho).2]; omega)), (k.col _ (h.pc i hi ho).1.row.lt).trans (h.pc i hi ho).2⟩, fun i hi ho => (h.cps i hi ho).keepR k (by omega), h.tl, fun f hf => ⟨(h.dues f hf).1.keepR k (by omega), fun i hi => ((h.dues f hf).2.1 i hi).keepR k (by omega), (h.dues f hf).2.2⟩, h.lim⟩
theorem SIs.since (h : SIs O q w p d) (s : w.Since w.heap.size w') : SIs O q w' p d := h.keepR (lo := q + 40) (hi := q + 40) (ChR.since s) (.inl (Nat.le_refl _))
theorem SIs.drewN (h : SIs O q w p d) (k : Nat) : SIs O q (w.drewN k) p d := h.since ⟨rfl, rfl, rfl, Nat.le_refl _, fun _ _ => rfl⟩
def wantsM (d : Sd) (peer : Int) (num : Nat) : Bool := match d.du with | none => false | some f => if 0 ≤ peer ∧ peer < (d.n : Int) then (match f peer.toNat with | none => false | some u => decide (u.le ≤ num)) else false
theorem wants_any (h : SIs O q w p d) (peer : Int) (num : Nat) :
    Calls Tryz.prog 30 #[.pointer (some ⟨p.sb, 0, none⟩), .int .i64 peer, .int .u64 (num : Nat)] w fun e w' => e = .returned (.bool (wantsM d peer num)) ∧ w = w' := by
  have c3 : w.cell? ⟨p.sb, 3, none⟩ = some (dvM p d) := h.row.1.cell (i := 3) (by decide)
  cases hdu : d.du with
  | none =>
    have ev : dvM p d = .slice none 0 0 := by unfold dvM; rw [hdu]
    have ew : wantsM d peer num = false := by unfold wantsM; rw [hdu]
    rw [ev] at c3
    rw [ew]
    have HA : Hid (Calls Tryz.prog 39 #[.slice none 0 0, .int .i64 peer] w fun e w' => e = .returned (.pointer none) ∧ w = w') := at_due_out peer (by omega)
    clear h hdu ev ew
    go_enter Tryz.func30, Tryz.ntmps30
    go_wp2_with (go_at_call 39; refine HA.out.mono ?_; rintro e w2 ⟨rfl, rfl⟩)
    go_ret
    exact ⟨rfl, rfl⟩
  | some f =>
    obtain ⟨hr, hd, ho⟩ := h.dues f hdu
    have ev : dvM p d = .slice (some ⟨p.Db, 0, none⟩) d.n d.n := by unfold dvM; rw [hdu]
    rw [ev] at c3
    by_cases hp : 0 ≤ peer ∧ peer < (d.n : Int)
    · obtain ⟨i, rfl⟩ : ∃ i : Nat, peer = (i : Int) := ⟨peer.toNat, by omega⟩
      have hi : i < d.n := by omega
      have HA : Hid (Calls Tryz.prog 39 #[.slice (some ⟨p.Db, 0, none⟩) d.n d.n, .int .i64 (i : Nat)] w fun e w' => e = .returned (.pointer (p.dp i)) ∧ w = w') := at_due hr.1 i hi _ rfl
      have ew : wantsM d (i : Nat) num = (match f i with | none => false | some u => decide (u.le ≤ num)) := by unfold wantsM; rw [hdu]; show (if _ then _ else _) = _; rw [if_pos hp]; rfl
      rw [ew]
      rcases hd i hi with ⟨h1, h2⟩ | ⟨u, b, h1, h2, h3⟩
      · rw [h1]
        rw [h2] at HA
        show Calls _ _ _ _ fun e w' => e = .returned (.bool false) ∧ _
        generalize d.n = n at *
        clear h hr hd ho hdu ev ew h1 h2 hp hi
        go_enter Tryz.func30, Tryz.ntmps30
        go_wp2_with (go_at_call 39; refine HA.out.mono ?_; rintro e w2 ⟨rfl, rfl⟩)
        go_ret
        exact ⟨rfl, rfl⟩
      · rw [h1]
        rw [h2] at HA
        have c4 : w.cell? ⟨b, 4, none⟩ = some (.int .u64 (u.le : Nat)) := h3.1.cell (i := 4) (by decide)
        obtain ⟨y, hy⟩ : ∃ y, u.le = y := ⟨_, rfl⟩
        rw [hy] at c4
        show Calls _ _ _ _ fun e w' => e = .returned (.bool (decide (u.le ≤ num))) ∧ _
        rw [hy]
        generalize d.n = n at *
        clear h hr hd ho hdu ev ew h1 h2 hp hi h3 hy
        by_cases hle : y ≤ num
        · have z : (y : Int) ≤ (num : Int) := by omega
          rw [decide_eq_true hle]
          clear hle
          go_enter Tryz.func30, Tryz.ntmps30
          go_wp2_with (go_at_call 39; refine HA.out.mono ?_; rintro e w2 ⟨rfl, rfl⟩)
          go_ret
          exact ⟨rfl, rfl⟩
        · have z : ¬ (y : Int) ≤ (num : Int) := by omega
          have HLE := hide hle
          clear hle
          go_enter Tryz.func30, Tryz.ntmps30
          go_wp2_with (go_at_call 39; refine HA.out.mono ?_; rintro e w2 ⟨rfl, rfl⟩)
          go_ret
          exact ⟨by simp [HLE.out], rfl⟩
    · have ew : wantsM d peer num = false := by unfold wantsM; rw [hdu]; show (if _ then _ else _) = _; rw [if_neg hp]
      rw [ew]
      have HA : Hid (Calls Tryz.prog 39 #[.slice (some ⟨p.Db, 0, none⟩) d.n d.n, .int .i64 peer] w fun e w' => e = .returned (.pointer none) ∧ w = w') := at_due_out peer (by omega)
      generalize d.n = n at *
      clear h hr hd ho hdu ev ew hp
      go_enter Tryz.func30, Tryz.ntmps30
      go_wp2_with (go_at_call 39; refine HA.out.mono ?_; rintro e w2 ⟨rfl, rfl⟩)
      go_ret
      exact ⟨rfl, rfl⟩
end
end Go.Proofs.YtdhhjdacidhmjaaGreat

/- Package settle: Tick. -/
namespace Go.Proofs.YtdhhjdacidhmjaaGreat
open Go.RowKit
set_option maxRecDepth 100000
set_option maxRecDepth 100000

theorem step_apps2 {P : Program} {w w' : World} {ops : Array Oper} {o : Oper} {a : Act} {K : Act → World → Prop} {Q : Exit → Act → World → Prop} {E : Prop} (hgd : o.guard = none) (s x : Operand) (t : TypeId)
    (ho : o.op = .call { callee := .builtin .append, args := #[s, x], argTypes := #[t, t] }) (v u v' : Value) (hs : a.eval s = v) (hx : a.eval x = u)
    (hrun : (Builtin.append_ #[t, t] o.type #[v, u]).run P w = .ok v' w') (h : K (a.put o.dst v') w') : if Region.wanted o (yielded ops a.tmps) = true then Oper.wp P o a w K Q else E := by
  have hw : Region.wanted o (yielded ops a.tmps) = true := by simp [Region.wanted, hgd]
  rw [if_pos hw]
  unfold Oper.wp
  simp [execOp, ho, resolve, invoke, builtin, hs, hx, hrun, Result.andThen]
  exact h

/-- A message: to whom, its bytes. -/
structure Ms where
  dst : Int
  s : ByteArray
def Ms.cells (m : Ms) : List Value := [.int .i64 m.dst, .string m.s]
def msCells : List Ms → List Value
  | [] => []
  | m :: ms => m.cells ++ msCells ms

def up {α : Type} (f : Nat → α) (k : Nat) (v : α) : Nat → α := fun j => if j = k then v else f j
theorem up_same {α : Type} (f : Nat → α) (k : Nat) (v : α) : up f k v k = v := if_pos rfl
theorem up_ne {α : Type} (f : Nat → α) (k : Nat) (v : α) {j : Nat} (h : j ≠ k) : up f k v j = f j := if_neg h
/-- A peer's pace has ticked. -/
def Sd.pace (d : Sd) (i : Nat) : Sd := { d with l := up d.l i (tkL (d.l i) (d.g i)), g := up d.g i (tkG (d.l i) (d.g i) d.m) }
def Sd.turn (d : Sd) (i : Nat) : Sd := { d with t := up d.t i ((d.t i + 1) % d.c) }
/-- A tick at one peer. -/
def tkS (d : Sd) (f : Nat → Option Du) (i : Nat) : Sd × List Mg := match f i with
  | none => (d, [])
  | some u => if d.l i ≤ 1 then ((d.pace i).turn i, [telG d.node d.shard u.e (d.cp i (d.t i))]) else (d.pace i, [])
def tkN (d : Sd) (f : Nat → Option Du) : Nat → Sd × List Mg
  | 0 => (d, [])
  | i + 1 => ((tkS (tkN d f i).1 f i).1, (tkN d f i).2 ++ (tkS (tkN d f i).1 f i).2)
def tickM (d : Sd) : Sd × List Mg := match d.du with | none => (d, []) | some f => tkN d f d.n
/-- What no tick turns. -/
structure Like (d e : Sd) : Prop where
  node : e.node = d.node
  shard : e.shard = d.shard
  n : e.n = d.n
  own : e.own = d.own
  m : e.m = d.m
  c : e.c = d.c
  cp : e.cp = d.cp
  du : e.du = d.du
theorem Like.refl (d : Sd) : Like d d := ⟨rfl, rfl, rfl, rfl, rfl, rfl, rfl, rfl⟩
theorem Like.trans {a b c : Sd} (h : Like a b) (k : Like b c) : Like a c := ⟨k.node.trans h.node, k.shard.trans h.shard, k.n.trans h.n, k.own.trans h.own, k.m.trans h.m, k.c.trans h.c, k.cp.trans h.cp, k.du.trans h.du⟩
theorem tkS_like (d : Sd) (f : Nat → Option Du) (i : Nat) : Like d (tkS d f i).1 := by
  unfold tkS
  cases f i with
  | none => exact Like.refl d
  | some u =>
    show Like d (if d.l i ≤ 1 then ((d.pace i).turn i, [telG d.node d.shard u.e (d.cp i (d.t i))]) else (d.pace i, [])).1
    split <;> exact ⟨rfl, rfl, rfl, rfl, rfl, rfl, rfl, rfl⟩
theorem tkS_len (d : Sd) (f : Nat → Option Du) (i : Nat) : (tkS d f i).2.length ≤ 1 := by
  unfold tkS
  cases f i with
  | none => exact Nat.zero_le _
  | some u =>
    show (if d.l i ≤ 1 then ((d.pace i).turn i, [telG d.node d.shard u.e (d.cp i (d.t i))]) else (d.pace i, [])).2.length ≤ 1
    split
    · exact Nat.le_refl _
    · exact Nat.zero_le _
theorem tkN_like (d : Sd) (f : Nat → Option Du) (i : Nat) : Like d (tkN d f i).1 := by
  induction i with
  | zero => exact Like.refl d
  | succ i ih => exact ih.trans (tkS_like _ f i)
theorem tkN_len (d : Sd) (f : Nat → Option Du) (i : Nat) : (tkN d f i).2.length ≤ i := by
  induction i with
  | zero => exact Nat.le_refl _
  | succ i ih =>
    show ((tkN d f i).2 ++ (tkS (tkN d f i).1 f i).2).length ≤ i + 1
    have := tkS_len (tkN d f i).1 f i
    rw [List.length_append]
    omega
/-- A list of messages without values. -/
def msF (ms : List Mg) (j : Nat) : Value := mgCell (ms.getD (j / 22) mg0) none 0 (j % 22)
theorem infoMM : (Tryz.prog.info? 108).map (fun i => (i.zero, i.size, i.bytes)) = some (some (mgV mg0 none 0), 22, 208) := by kernel_rfl
theorem bs_run (m : Mg) (W : World) : (Instr.buildSlice 94 1 #[(0, mgV m none 0)]).run Tryz.prog W = .ok (.slice (some ⟨W.heap.size, 0, none⟩) 1 1) (W.alloc (.cells (mgL m none 0).toArray 108)) := by kernel_rfl
theorem msF_app (ms : List Mg) (m : Mg) (j : Nat) (hj : j < (ms.length + 1) * 22) : (if j < ms.length * 22 then msF ms j else (mgL m none 0).getD (j - ms.length * 22) undef) = msF (ms ++ [m]) j := by
  unfold msF
  by_cases h : j < ms.length * 22
  · rw [if_pos h]
    have : j / 22 < ms.length := by omega
    rw [List.getD_eq_getElem?_getD, List.getD_eq_getElem?_getD, List.getElem?_append_left this]
  · rw [if_neg h]
    have e1 : j / 22 = ms.length := by omega
    have e2 : j - ms.length * 22 = j % 22 := by omega
    have e3 : j % 22 < 22 := Nat.mod_lt _ (by decide)
    rw [e1, e2]
    have e4 : (ms ++ [m]).getD ms.length mg0 = m := by simp [List.getD]
    rw [e4]
    unfold mgL
    rw [List.getD_eq_getElem?_getD, List.getElem?_map, List.getElem?_range e3]
    rfl
section
variable {q : Nat} {O O' : Nat → Nat} {w w' : World} {p : Sp} {d : Sd}
/-- A peer's pace has turned. -/
theorem SIs.paced (h : SIs O q w p d) (i : Nat) (hi : i < d.n) (ho : i ≠ d.own) (hp : PcIs w' (p.pb i) (tkL (d.l i) (d.g i)) (tkG (d.l i) (d.g i) d.m) d.m) (hm : Mv (fun k => k = p.pb i) w w') : SIs O q w' p (d.pace i) ∧ ChR q (q + 40) O O w w' := by
  obtain ⟨_, l2, l3, _⟩ := h.lim
  have hc := (h.pc i hi ho).2
  have k : Ch (q + 11 + 3 * i) O O w w' := ⟨hm.os, hm.tape, hm.output, hm.size, fun _ _ => rfl, fun b hb hn => hm.block b hb (fun e => hn (by rw [e]; exact hc))⟩
  refine ⟨⟨h.row.keep k (by omega), h.roads.keep k (by omega), fun j hj hjo => (h.rd j hj hjo).keep k (by omega), fun j hj hjo => ?_, fun j hj hjo => (h.cps j hj hjo).keep k (by omega), h.tl, fun f hf => ⟨(h.dues f hf).1.keep k (by omega), fun j hj => ((h.dues f hf).2.1 j hj).keep k (by omega), (h.dues f hf).2.2⟩, h.lim⟩, ChR.of k (by omega) (by omega)⟩
  show PcIs w' (p.pb j) (up d.l i (tkL (d.l i) (d.g i)) j) (up d.g i (tkG (d.l i) (d.g i) d.m) j) d.m ∧ _
  by_cases e : j = i
  · subst e
    rw [up_same, up_same]
    exact ⟨hp, hc⟩
  · rw [up_ne _ _ _ e, up_ne _ _ _ e]
    exact ⟨(h.pc j hj hjo).1.later (k.block _ (h.pc j hj hjo).1.row.lt (by rw [(h.pc j hj hjo).2]; omega)), (h.pc j hj hjo).2⟩
/-- A peer's turn has gone on. -/
theorem SIs.turned (h : SIs O q w p d) (i : Nat) (hi : i < d.n) (ho : i ≠ d.own) : SIs O q (w.setCell ⟨p.rb i, 2, none⟩ (.int .i64 ((d.t i + 1) % d.c : Nat))) p (d.turn i) ∧ ChR q (q + 40) O O w (w.setCell ⟨p.rb i, 2, none⟩ (.int .i64 ((d.t i + 1) % d.c : Nat))) := by
  obtain ⟨_, l2, l3, _, _, l6, _⟩ := h.lim
  have k : Ch (q + 10 + 3 * i) O O w (w.setCell ⟨p.rb i, 2, none⟩ (.int .i64 ((d.t i + 1) % d.c : Nat))) := Ch.set (h.rd i hi ho).2 _ _
  refine ⟨⟨h.row.keep k (by omega), h.roads.keep k (by omega), fun j hj hjo => ?_, fun j hj hjo => ⟨(h.pc j hj hjo).1.later (k.block _ (h.pc j hj hjo).1.row.lt (by rw [(h.pc j hj hjo).2]; omega)), (h.pc j hj hjo).2⟩, fun j hj hjo => (h.cps j hj hjo).keep k (by omega), fun j hj hjo => ?_, fun f hf => ⟨(h.dues f hf).1.keep k (by omega), fun j hj => ((h.dues f hf).2.1 j hj).keep k (by omega), (h.dues f hf).2.2⟩, h.lim⟩, ChR.of k (by omega) (by omega)⟩
  · show RowC O _ _ (p.rb j) _ 3 (rdCell (p.pb j) (p.cb j) d.c (p.cap j) (up d.t i ((d.t i + 1) % d.c) j))
    by_cases e : j = i
    · subst e
      rw [up_same]
      exact ⟨rd_set (h.rd j hj hjo).1 _, (h.rd j hj hjo).2⟩
    · rw [up_ne _ _ _ e]
      exact (h.rd j hj hjo).keep k (by omega)
  · show up d.t i ((d.t i + 1) % d.c) j < d.c
    by_cases e : j = i
    · subst e
      rw [up_same]
      exact Nat.mod_lt _ (by omega)
    · rw [up_ne _ _ _ e]
      exact h.tl j hj hjo
end
/-- Where the loop of Tick stands. -/
def TkL (q : Nat) (O : Nat → Nat) (w : World) (p : Sp) (d : Sd) (f : Nat → Option Du) (i : Nat) (v : Value) (K : Nat) (W : World) : Prop := ∃ O2, SIs O2 q W p (tkN d f i).1 ∧ (tkN d f i).2.length = K ∧ Li O2 (q + 40) W 108 22 v K (msF (tkN d f i).2) ∧ ChR q (q + 41) O O2 w W
theorem tick_out {q : Nat} {O O2 : Nat → Nat} {w W : World} {p : Sp} {D : Sd} {ms : List Mg} {a : Option Addr} {K c : Nat} {u : Du} {db i : Nat} (h : SIs O2 q W p D) (hK : ms.length = K) (hK8 : K ≤ 8) (hl : Li O2 (q + 40) W 108 22 (.slice a K c) K (msF ms)) (hr : ChR q (q + 41) O O2 w W) (hi : i < D.n) (ho : i ≠ D.own) (hd : RowC O2 (q + 2) W db 128 5 (duCell u)) :
    ∃ x : Int, Hid ((W.drew).cell? ⟨db, 0, none⟩ = some (.int .i64 u.e.p) ∧ (W.drew).cell? ⟨db, 1, none⟩ = some (.int .u64 (u.e.nu : Nat)) ∧ (W.drew).cell? ⟨db, 2, none⟩ = some (.string (strL u.e.na)) ∧ (W.drew).cell? ⟨db, 3, none⟩ = some (.int .u64 (u.e.am : Nat))) ∧ Hid (Calls Tryz.prog 47 #[.pointer (some ⟨p.rb i, 0, none⟩)] W.drew fun e w7 => e = .returned (.int .i64 x) ∧ Hid (w7.cell? ⟨db, 0, none⟩ = some (.int .i64 u.e.p) ∧ w7.cell? ⟨db, 1, none⟩ = some (.int .u64 (u.e.nu : Nat)) ∧ w7.cell? ⟨db, 2, none⟩ = some (.string (strL u.e.na)) ∧ w7.cell? ⟨db, 3, none⟩ = some (.int .u64 (u.e.am : Nat))) ∧
      Hid (Calls Tryz.prog 46 #[.pointer (some ⟨p.sb, 0, none⟩), .agg #[.int .i64 u.e.p, .int .u64 (u.e.nu : Nat), .string (strL u.e.na), .int .u64 (u.e.am : Nat)], .int .i64 x] w7 fun e w8 => ∃ (MA : Array Value) (W9 : World) (a' : Option Addr) (c' : Nat) (W10 : World), e = .returned (.agg MA) ∧ Hid (w8.cell? ⟨db, 0, none⟩ = some (.int .i64 u.e.p) ∧ w8.cell? ⟨db, 1, none⟩ = some (.int .u64 (u.e.nu : Nat)) ∧ w8.cell? ⟨db, 2, none⟩ = some (.string (strL u.e.na)) ∧ w8.cell? ⟨db, 3, none⟩ = some (.int .u64 (u.e.am : Nat))) ∧ Hid (mgV (telG D.node D.shard u.e (D.cp i (D.t i))) none 0 = .agg MA ∧ w8.alloc (.cells (mgL (telG D.node D.shard u.e (D.cp i (D.t i))) none 0).toArray 108) = W9) ∧ Hid (W9.cell? ⟨db, 0, none⟩ = some (.int .i64 u.e.p) ∧ W9.cell? ⟨db, 1, none⟩ = some (.int .u64 (u.e.nu : Nat)) ∧ W9.cell? ⟨db, 2, none⟩ = some (.string (strL u.e.na)) ∧ W9.cell? ⟨db, 3, none⟩ = some (.int .u64 (u.e.am : Nat))) ∧
        Hid ((Builtin.append_ #[94, 94] 94 #[.slice a K c, .slice (some ⟨w8.heap.size, 0, none⟩) 1 1]).run Tryz.prog W9 = .ok (.slice a' (K + 1) c') W10) ∧ Hid (W10.cell? ⟨db, 0, none⟩ = some (.int .i64 u.e.p) ∧ W10.cell? ⟨db, 1, none⟩ = some (.int .u64 (u.e.nu : Nat)) ∧ W10.cell? ⟨db, 2, none⟩ = some (.string (strL u.e.na)) ∧ W10.cell? ⟨db, 3, none⟩ = some (.int .u64 (u.e.am : Nat))) ∧ Hid (∃ O3, SIs O3 q W10 p (D.turn i) ∧ Li O3 (q + 40) W10 108 22 (.slice a' (K + 1) c') (K + 1) (msF (ms ++ [telG D.node D.shard u.e (D.cp i (D.t i))])) ∧ ChR q (q + 41) O O3 w W10))) := by
  obtain ⟨_, l2, l3, _, _, l6, l7⟩ := h.lim
  have hcells : ∀ (W' : World), W'.rowIs db 128 5 (duCell u) → W'.cell? ⟨db, 0, none⟩ = some (.int .i64 u.e.p) ∧ W'.cell? ⟨db, 1, none⟩ = some (.int .u64 (u.e.nu : Nat)) ∧ W'.cell? ⟨db, 2, none⟩ = some (.string (strL u.e.na)) ∧ W'.cell? ⟨db, 3, none⟩ = some (.int .u64 (u.e.am : Nat)) := fun W' r => ⟨r.cell (i := 0) (by decide), r.cell (i := 1) (by decide), r.cell (i := 2) (by decide), r.cell (i := 3) (by decide)⟩
  have dS : W.Since W.heap.size W.drew := (World.Since.refl _ _).drew
  refine ⟨D.cp i (D.t i), hcells _ (hd.1.of_block rfl), ?_⟩
  have hrd := (h.rd i hi ho).1
  have ht := h.tl i hi ho
  have hcx : W.drew.cell? ⟨p.cb i, D.t i, none⟩ = some (.int .i64 (D.cp i (D.t i))) := by
    obtain ⟨b, cap, F, hv, h1, _, h3, h4⟩ := (h.cps i hi ho).at' (by omega)
    injection hv with e1 _ _
    obtain rfl : p.cb i = b := congrArg Addr.block (Option.some.inj e1)
    have c := h3.1.cell (i := D.t i) (by omega)
    rw [h4 _ (by omega)] at c
    exact c
  refine (next_any (hrd.of_block (w' := W.drew) rfl) ht (by omega) _ hcx).mono fun e w7 ⟨he, k, hw7⟩ => ⟨he, ?_, ?_⟩
  all_goals
    obtain ⟨h7, r7⟩ := (h.since (w' := W.drew.drewN k) ⟨rfl, rfl, rfl, Nat.le_refl _, fun _ _ => rfl⟩).turned i hi ho
    rw [← hw7] at h7 r7
    have q7 : Ch (q + 10 + 3 * i) O2 O2 W w7 := by
      rw [hw7]
      have s0 : W.Since W.heap.size (W.drew.drewN k) := ⟨rfl, rfl, rfl, Nat.le_refl _, fun _ _ => rfl⟩
      exact (Ch.since s0).trans (Ch.set (h.rd i hi ho).2 _ _)
    have hd7 := hd.keep q7 (by omega)
  · exact hcells _ hd7.1
  · have hl7 := hl.keep q7 (by omega)
    have hr7 : ChR q (q + 41) O O2 w w7 := hr.trans (ChR.of q7 (by omega) (by omega))
    refine (tell_any h7.row.1 u.e (D.cp i (D.t i))).mono fun e w8 ⟨he8, s8⟩ => ?_
    have h8 := h7.since s8
    have hd8 := hd7.keep (x := q + 3) (Ch.since s8) (by omega)
    have hl8 := hl7.keep (x := q + 3) (Ch.since s8) (by omega)
    have s9 : w8.Since w8.heap.size (w8.alloc (.cells (mgL (telG D.node D.shard u.e (D.cp i (D.t i))) none 0).toArray 108)) := (World.Since.refl _ _).alloc (Nat.le_refl _) _
    obtain ⟨v', W10, e10, k10, hl10⟩ := hl8.app (P := Tryz.prog) Tryz.underlying94 infoMM rfl (by decide) (mgL (telG D.node D.shard u.e (D.cp i (D.t i))) none 0) (mgL_len _ _ _) (mgL_one _ _ _) (by omega) (by omega)
    obtain ⟨a', c', rfl⟩ := hl10.form
    exact ⟨_, _, a', c', W10, he8, hcells _ hd8.1, ⟨rfl, rfl⟩, hcells _ (hd8.1.of_block (s9.block _ hd8.1.lt)), e10, hcells _ (hd8.keep k10 (by omega)).1, _, h8.keepR (ChR.of k10 (Nat.le_refl _) (Nat.lt_succ_self _)) (.inl (Nat.le_refl _)), hl10.congr (fun j hj => by rw [← hK] at hj ⊢; exact msF_app ms _ j hj), (hr7.trans (ChR.since s8)).trans (ChR.of k10 (by omega) (by omega))⟩
set_option maxHeartbeats 8000000 in
theorem tick_due {q : Nat} {O : Nat → Nat} {w : World} {p : Sp} {d : Sd} {f : Nat → Option Du} (h : SIs O q w p d) (hf : d.du = some f) :
    Calls Tryz.prog 26 #[.pointer (some ⟨p.sb, 0, none⟩)] w fun e w' => ∃ a c, e = .returned (.slice a (tkN d f d.n).2.length c) ∧ TkL q O w p d f d.n (.slice a (tkN d f d.n).2.length c) (tkN d f d.n).2.length w' := by
  obtain ⟨n, hn⟩ : ∃ n, d.n = n := ⟨_, rfl⟩
  have ev : ∀ D, Like d D → dvM p D = .slice (some ⟨p.Db, 0, none⟩) n n := fun D hD => by unfold dvM; rw [hD.du, hf, hD.n, hn]
  have c3 : w.cell? ⟨p.sb, 3, none⟩ = some (.slice (some ⟨p.Db, 0, none⟩) n n) := by have c := h.row.1.cell (i := 3) (by decide); rw [show sCell d.node d.shard p.Rb d.n (dvM p d) 3 = dvM p d from rfl, ev d (Like.refl d)] at c; exact c
  have HX0 : Hid (TkL q O w p d f 0 (.slice none 0 0) 0 w) := ⟨O, h, rfl, Li.nil _ _ _ _ _ _, ChR.refl⟩
  have HN := hide hn
  have HF := hide hf
  have HN8 : Hid (n ≤ 8) := by have := h.lim; show n ≤ 8; omega
  have HFO : Hid (f d.own = none) := (h.dues f hf).2.2
  have HEV := hide ev
  rw [hn]
  clear hn hf h ev
  go_enter Tryz.func26, Tryz.ntmps26
  go_wp2_with fail
  clear c3
  go_loopg [3, 4, 5, 6, 12] n (fun g s3 s4 s5 s6 s12 wx => ∃ (i K : Nat) (a : Option Addr) (c : Nat), i ≤ n ∧ g = n - i ∧ s3 = .slice a K c ∧ s12 = .int .i64 (i : Nat) ∧ Hid (TkL q O w p d f i (.slice a K c) K wx))
  case atStart => exact ⟨0, 0, none, 0, Nat.zero_le _, rfl, rfl, rfl, HX0⟩
  case round =>
    clear HX0
    obtain ⟨i, K, a, c, hi, rfl, rfl, rfl, HX⟩ := hrel
    by_cases hlt : i < n
    · have z1 : (i : Int) < (n : Int) := by omega
      have z0 : (0 : Int) ≤ (i : Int) := by omega
      have hwi : IntKind.i64.wrap ((i : Int) + 1) = (i : Int) + 1 := by have := HN8.out; rw [IntKind.wrap_i64]; omega
      have hme : n - (i + 1) < n - i := by omega
      have HI := hide hlt
      obtain ⟨O2, h2, hK, hl2, hr2⟩ := HX.out
      have hLk := tkN_like d f i
      have HST : Hid (tkN d f (i + 1) = ((tkS (tkN d f i).1 f i).1, (tkN d f i).2 ++ (tkS (tkN d f i).1 f i).2)) := rfl
      have hKl := tkN_len d f i
      obtain ⟨D, hD⟩ : ∃ D, (tkN d f i).1 = D := ⟨_, rfl⟩
      obtain ⟨ms, hms⟩ : ∃ ms, (tkN d f i).2 = ms := ⟨_, rfl⟩
      rw [hD] at h2 hLk HST
      rw [hms] at hK hl2 HST hKl
      have hn : D.n = n := hLk.n.trans HN.out
      have hin : i < D.n := by omega
      have hdu : D.du = some f := hLk.du.trans HF.out
      obtain ⟨hdr, hdd, _⟩ := h2.dues f hdu
      have c2 : wr.cell? ⟨p.sb, 2, none⟩ = some (.slice (some ⟨p.Rb, 0, none⟩) n n) := by have c := h2.row.1.cell (i := 2) (by decide); rw [show sCell D.node D.shard p.Rb D.n (dvM p D) 2 = .slice (some ⟨p.Rb, 0, none⟩) D.n D.n from rfl, hn] at c; exact c
      have c3 : wr.cell? ⟨p.sb, 3, none⟩ = some (.slice (some ⟨p.Db, 0, none⟩) n n) := by have c := h2.row.1.cell (i := 3) (by decide); rw [show sCell D.node D.shard p.Rb D.n (dvM p D) 3 = dvM p D from rfl, HEV.out D hLk] at c; exact c
      have HA1 : Hid (∀ k, Calls Tryz.prog 39 #[.slice (some ⟨p.Db, 0, none⟩) n n, .int .i64 (i : Nat)] (wr.drewN k) fun e w' => e = .returned (.pointer (p.dp i)) ∧ w' = wr.drewN k) := fun k => by rw [← hn]; exact (at_due (w := wr.drewN k) (hdr.1.of_block rfl) i hin _ rfl).mono fun e w' ⟨a, b⟩ => ⟨a, b.symm⟩
      have HA2 : Hid (∀ k, Calls Tryz.prog 41 #[.slice (some ⟨p.Rb, 0, none⟩) n n, .int .i64 (i : Nat)] (wr.drewN k) fun e w' => e = .returned (.pointer (if i = D.own then none else some ⟨p.rb i, 0, none⟩)) ∧ w' = wr.drewN k) := fun k => by rw [← hn]; exact (at_road (w := wr.drewN k) (h2.roads.1.of_block rfl) i hin _ rfl).mono fun e w' ⟨a, b⟩ => ⟨a, b.symm⟩
      rcases hdd i hin with ⟨hfi, hdp⟩ | ⟨u, db, hfi, hdp, hrow⟩
      · have HZ : Hid (∀ k, TkL q O w p d f (i + 1) (.slice a K c) K (wr.drewN k)) := fun k => by
          have s0 : wr.Since wr.heap.size (wr.drewN k) := ⟨rfl, rfl, rfl, Nat.le_refl _, fun _ _ => rfl⟩
          refine ⟨O2, ?_, ?_, ?_, hr2.trans (ChR.since s0)⟩
          all_goals
            rw [HST.out]
            unfold tkS
            rw [hfi]
          · exact h2.since s0
          · show (ms ++ []).length = K
            rw [List.append_nil]; exact hK
          · show Li _ _ _ _ _ _ _ (msF (ms ++ []))
            rw [List.append_nil]; exact hl2.keep (x := q + 41) (Ch.since s0) (by omega)
        rw [hdp] at HA1
        obtain ⟨RP, hRP⟩ : ∃ RP, (if i = D.own then none else some (⟨p.rb i, 0, none⟩ : Addr)) = RP := ⟨_, rfl⟩
        rw [hRP] at HA2
        clear hRP
        clear hfi hdp hdd hdr hdu hin hn hLk hKl hK hl2 hr2 h2 HX hi hlt HST hD hms
        go_upto_region 5 with fail
        go_quiet (first | with_reducible exact Calls.quiet_of_same (HA1.out _) | with_reducible exact Calls.quiet_of_same (HA2.out _))
        go_wp2_with fail
        go_roundg (n - (i + 1))
        case measure => go_light; exact hme
        case rel => go_light; exact ⟨i + 1, K, a, c, HI.out, rfl, rfl, by simp, HZ.out _⟩
      · have hio : i ≠ D.own := fun e => by rw [e, hLk.own, HFO.out] at hfi; cases hfi
        rw [hdp] at HA1
        rw [if_neg hio] at HA2
        have r0 : wr.cell? ⟨p.rb i, 0, none⟩ = some (.pointer (some ⟨p.pb i, 0, none⟩)) := (h2.rd i hin hio).1.cell (i := 0) (by decide)
        have HTK : Hid (∀ k, Calls Tryz.prog 45 #[.pointer (some ⟨p.pb i, 0, none⟩)] (wr.drewN k) fun e w' => e = .returned (.bool (decide (D.l i ≤ 1))) ∧ Hid (∃ O2, SIs O2 q w' p (D.pace i) ∧ Li O2 (q + 40) w' 108 22 (.slice a K c) K (msF ms) ∧ ChR q (q + 41) O O2 w w' ∧ RowC O2 (q + 2) w' db 128 5 (duCell u))) := fun k => by
          have s0 : wr.Since wr.heap.size (wr.drewN k) := ⟨rfl, rfl, rfl, Nat.le_refl _, fun _ _ => rfl⟩
          have h3 := h2.since s0
          refine (tick_any (h3.pc i hin hio).1).mono fun e w' ⟨he, hp, hm⟩ => ⟨he, O2, ?_⟩
          obtain ⟨h4, r4⟩ := h3.paced i hin hio hp hm
          have q4 : Ch (q + 11 + 3 * i) O2 O2 (wr.drewN k) w' := ⟨hm.os, hm.tape, hm.output, hm.size, fun _ _ => rfl, fun b hb hn => hm.block b hb (fun e => hn (by rw [e]; exact (h3.pc i hin hio).2))⟩
          have l8 := HN8.out
          exact ⟨h4, (hl2.keep (x := q + 41) (Ch.since s0) (by omega)).keep q4 (by omega), (hr2.trans (ChR.since s0)).trans (r4.wide (Nat.le_refl _) (by omega)), (hrow.keep (x := q + 41) (Ch.since s0) (by omega)).keep q4 (by omega)⟩
        by_cases hl1 : D.l i ≤ 1
        · rw [decide_eq_true hl1] at HTK
          have HGO : Hid (∀ W10 v, (∃ O3, SIs O3 q W10 p ((D.pace i).turn i) ∧ Li O3 (q + 40) W10 108 22 v (K + 1) (msF (ms ++ [telG D.node D.shard u.e (D.cp i (D.t i))])) ∧ ChR q (q + 41) O O3 w W10) → TkL q O w p d f (i + 1) v (K + 1) W10) := fun W10 v ⟨O3, g1, g2, g3⟩ => by
            have e : tkS D f i = ((D.pace i).turn i, [telG D.node D.shard u.e (D.cp i (D.t i))]) := by unfold tkS; rw [hfi]; exact if_pos hl1
            refine ⟨O3, ?_, ?_, ?_, g3⟩
            all_goals rw [HST.out, e]
            · exact g1
            · show (ms ++ [_]).length = K + 1
              rw [List.length_append, hK]; rfl
            · exact g2
          have HKK : Hid (ms.length = K ∧ K ≤ 8 ∧ i < D.n ∧ i ≠ D.own) := ⟨hK, by have := HN8.out; omega, hin, hio⟩
          clear hfi hdp hdd hdr hdu hin hn hLk hKl hK hl2 hr2 h2 HX hi hlt HST hD hms hrow hio hl1
          go_upto_region 5 with fail
          go_quiet (first | with_reducible exact Calls.quiet_of_same (HA1.out _) | with_reducible exact Calls.quiet_of_same (HA2.out _))
          have r0q : (wr.drewN nq).cell? ⟨p.rb i, 0, none⟩ = some (.pointer (some ⟨p.pb i, 0, none⟩)) := r0
          go_upto_region 7 with (go_at_call 45; refine (HTK.out _).mono ?_; rintro e' w6 ⟨rfl, HT6⟩)
          clear r0 r0q c2 c3 HA1 HA2 HTK
          obtain ⟨x, HC0, HN7⟩ : ∃ x : Int, Hid ((w6.drew).cell? ⟨db, 0, none⟩ = some (.int .i64 u.e.p) ∧ (w6.drew).cell? ⟨db, 1, none⟩ = some (.int .u64 (u.e.nu : Nat)) ∧ (w6.drew).cell? ⟨db, 2, none⟩ = some (.string (strL u.e.na)) ∧ (w6.drew).cell? ⟨db, 3, none⟩ = some (.int .u64 (u.e.am : Nat))) ∧ Hid _ := by
            obtain ⟨O3, g1, g2, g3, g4⟩ := HT6.out
            exact tick_out g1 HKK.out.1 HKK.out.2.1 g2 g3 HKK.out.2.2.1 HKK.out.2.2.2 g4
          refine wp_region_held_drew (S := fun W => W.cell? ⟨db, 0, none⟩ = some (.int .i64 u.e.p) ∧ W.cell? ⟨db, 1, none⟩ = some (.int .u64 (u.e.nu : Nat)) ∧ W.cell? ⟨db, 2, none⟩ = some (.string (strL u.e.na)) ∧ W.cell? ⟨db, 3, none⟩ = some (.int .u64 (u.e.am : Nat))) (by kernel_rfl) HC0.out fun _ => ?_
          refine wpAnyH_take (i := 0) (v := .slice a K c) rfl (by kernel_rfl) (by kernel_rfl) (by kernel_rfl) (fun _ _ _ h => h) (.inl ⟨rfl, fun W hW => by kernel_rfl⟩) HC0.out ?_
          simp only [List.getElem_toArray, List.getElem_cons_zero, Act.put, List.setIfInBounds_toArray, List.set_cons_zero, List.set_cons_succ]
          refine wpAnyH_take (i := 1) (v := .pointer (some ⟨p.sb, 0, none⟩)) rfl (by kernel_rfl) (by kernel_rfl) (by kernel_rfl) (fun _ _ _ h => h) (.inl ⟨rfl, fun W hW => by kernel_rfl⟩) HC0.out ?_
          simp only [List.getElem_toArray, List.getElem_cons_zero, List.getElem_cons_succ, Act.put, List.setIfInBounds_toArray, List.set_cons_zero, List.set_cons_succ]
          refine wpAnyH_take (i := 2) (v := .pointer (some ⟨db, 0, none⟩)) rfl (by kernel_rfl) (by kernel_rfl) (by kernel_rfl) (fun _ _ _ h => h) (.inl ⟨rfl, fun W hW => by kernel_rfl⟩) HC0.out ?_
          simp only [List.getElem_toArray, List.getElem_cons_zero, List.getElem_cons_succ, Act.put, List.setIfInBounds_toArray, List.set_cons_zero, List.set_cons_succ]
          refine wpAnyH_take (i := 3) (v := .pointer (some ⟨db, 0, none⟩)) rfl (by kernel_rfl) (by kernel_rfl) (by kernel_rfl) (fun _ _ _ h => h) (.inl ⟨rfl, fun W hW => by first | kernel_rfl | go_simp⟩) HC0.out ?_
          simp only [List.getElem_toArray, List.getElem_cons_zero, List.getElem_cons_succ, Act.put, List.setIfInBounds_toArray, List.set_cons_zero, List.set_cons_succ]
          refine wpAnyH_take (i := 4) (v := .pointer (some ⟨db, 0, none⟩)) rfl (by kernel_rfl) (by kernel_rfl) (by kernel_rfl) (fun _ _ _ h => h) (.inl ⟨rfl, fun W hW => by kernel_rfl⟩) HC0.out ?_
          simp only [List.getElem_toArray, List.getElem_cons_zero, List.getElem_cons_succ, Act.put, List.setIfInBounds_toArray, List.set_cons_zero, List.set_cons_succ]
          refine wpAnyH_take (i := 5) (v := .agg #[.int .i64 u.e.p, .int .u64 (u.e.nu : Nat), .string (strL u.e.na), .int .u64 (u.e.am : Nat)]) rfl (by kernel_rfl) (by kernel_rfl) (by kernel_rfl) (fun _ _ _ h => h) (.inl ⟨rfl, fun W hW => by obtain ⟨c0, c1, c2, c3⟩ := hW; go_simp⟩) HC0.out ?_
          simp only [List.getElem_toArray, List.getElem_cons_zero, List.getElem_cons_succ, Act.put, List.setIfInBounds_toArray, List.set_cons_zero, List.set_cons_succ]
          refine wpAnyH_take (i := 6) (v := .pointer (some ⟨p.rb i, 0, none⟩)) rfl (by kernel_rfl) (by kernel_rfl) (by kernel_rfl) (fun _ _ _ h => h) (.inl ⟨rfl, fun W hW => by kernel_rfl⟩) HC0.out ?_
          simp only [List.getElem_toArray, List.getElem_cons_zero, List.getElem_cons_succ, Act.put, List.setIfInBounds_toArray, List.set_cons_zero, List.set_cons_succ]
          refine wpAnyH_ready (rs := [7]) (by kernel_rfl) (by simp) ?_
          refine AllReadyH.cons rfl (fun KC hKC => ?_) AllReadyH.nil
          refine step_callW rfl 47 #[.pointer (some ⟨p.rb i, 0, none⟩)] (by kernel_rfl) HN7.out ?_
          rintro e' w7 ⟨rfl, HC7, HT8⟩
          refine ⟨_, rfl, hKC.out _ _ HC7.out fun _ => ?_⟩
          clear hKC HN7
          simp only [List.getElem_toArray, List.getElem_cons_zero, List.getElem_cons_succ, Act.put, List.setIfInBounds_toArray, List.set_cons_zero, List.set_cons_succ]
          refine wpAnyH_ready (rs := [8]) (by kernel_rfl) (by simp) ?_
          refine AllReadyH.cons rfl (fun KC hKC => ?_) AllReadyH.nil
          refine step_callW rfl 46 #[.pointer (some ⟨p.sb, 0, none⟩), .agg #[.int .i64 u.e.p, .int .u64 (u.e.nu : Nat), .string (strL u.e.na), .int .u64 (u.e.am : Nat)], .int .i64 x] (by kernel_rfl) HT8.out ?_
          rintro e' w8 ⟨MA, W9, a', c', W10, rfl, HC8, HB9, HC9, HP, HC10, HFIN⟩
          refine ⟨_, rfl, hKC.out _ _ HC8.out fun _ => ?_⟩
          clear hKC HT8
          simp only [List.getElem_toArray, List.getElem_cons_zero, List.getElem_cons_succ, Act.put, List.setIfInBounds_toArray, List.set_cons_zero, List.set_cons_succ]
          refine wpAnyH_ready (rs := [9]) (by kernel_rfl) (by simp) ?_
          refine AllReadyH.cons rfl (fun KC hKC => ?_) AllReadyH.nil
          refine step_storeM rfl (op_runW (w' := W9) (.slice (some ⟨w8.heap.size, 0, none⟩) 1 1) ?_ ?_)
          · rw [← HB9.out.2, ← HB9.out.1]
            kernel_rfl
          refine hKC.out _ _ HC9.out fun _ => ?_
          clear hKC
          simp only [List.getElem_toArray, List.getElem_cons_zero, List.getElem_cons_succ, Act.put, List.setIfInBounds_toArray, List.set_cons_zero, List.set_cons_succ]
          refine wpAnyH_ready (rs := [10]) (by kernel_rfl) (by simp) ?_
          refine AllReadyH.cons rfl (fun KC hKC => ?_) AllReadyH.nil
          refine step_apps2 rfl (.tmp 36) (.tmp 45) 94 rfl _ _ _ (by kernel_rfl) (by kernel_rfl) HP.out ?_
          refine hKC.out _ _ HC10.out fun _ => ?_
          clear hKC
          simp only [List.getElem_toArray, List.getElem_cons_zero, List.getElem_cons_succ, Act.put, List.setIfInBounds_toArray, List.set_cons_zero, List.set_cons_succ]
          refine wpAnyH_take (i := 11) (v := .slice a' (K + 1) c') rfl (by kernel_rfl) (by kernel_rfl) (by kernel_rfl) (fun _ _ _ h => h) (.inl ⟨rfl, fun W hW => by kernel_rfl⟩) HC10.out ?_
          simp only [List.getElem_toArray, List.getElem_cons_zero, List.getElem_cons_succ, Act.put, List.setIfInBounds_toArray, List.set_cons_zero, List.set_cons_succ]
          refine wpAnyH_done (by kernel_rfl) ?_ _
          clear HC8 HC9 HC10 HB9 HP HC7
          go_wp2_with fail
          go_roundg (n - (i + 1))
          case measure => go_light; exact hme
          case rel => go_light; exact ⟨i + 1, K + 1, a', c', HI.out, rfl, rfl, by simp, HGO.out _ _ HFIN.out⟩
        · rw [decide_eq_false hl1] at HTK
          have HGO : Hid (∀ W10, (∃ O3, SIs O3 q W10 p (D.pace i) ∧ Li O3 (q + 40) W10 108 22 (.slice a K c) K (msF ms) ∧ ChR q (q + 41) O O3 w W10 ∧ RowC O3 (q + 2) W10 db 128 5 (duCell u)) → TkL q O w p d f (i + 1) (.slice a K c) K W10) := fun W10 ⟨O3, g1, g2, g3, _⟩ => by
            have e : tkS D f i = (D.pace i, []) := by unfold tkS; rw [hfi]; exact if_neg hl1
            refine ⟨O3, ?_, ?_, ?_, g3⟩
            all_goals rw [HST.out, e]
            · exact g1
            · show (ms ++ []).length = K
              rw [List.append_nil]; exact hK
            · show Li _ _ _ _ _ _ _ (msF (ms ++ []))
              rw [List.append_nil]; exact g2
          clear hfi hdp hdd hdr hdu hin hn hLk hKl hK hl2 hr2 h2 HX hi hlt HST hD hms hrow hio hl1
          go_upto_region 5 with fail
          go_quiet (first | with_reducible exact Calls.quiet_of_same (HA1.out _) | with_reducible exact Calls.quiet_of_same (HA2.out _))
          have r0q : (wr.drewN nq).cell? ⟨p.rb i, 0, none⟩ = some (.pointer (some ⟨p.pb i, 0, none⟩)) := r0
          go_wp2_with (go_at_call 45; refine (HTK.out _).mono ?_; rintro e' w6 ⟨rfl, HT6⟩)
          go_roundg (n - (i + 1))
          case measure => go_light; exact hme
          case rel => go_light; exact ⟨i + 1, K, a, c, HI.out, rfl, rfl, by simp, HGO.out _ HT6.out⟩
    · obtain rfl : i = n := by omega
      have z1 : ¬ (i : Int) < (i : Int) := by omega
      have HE : Hid ((tkN d f i).2.length = K) := by obtain ⟨_, _, hK, _⟩ := HX.out; exact hK
      clear hi hlt
      go_wp2_with fail
      go_ret
      rw [HE.out]
      exact ⟨a, c, rfl, HX.out⟩
end Go.Proofs.YtdhhjdacidhmjaaGreat

/- Package settle: fill with what is due; Tick without a book. -/
namespace Go.Proofs.YtdhhjdacidhmjaaGreat
open Go.RowKit
set_option maxRecDepth 100000
set_option maxRecDepth 100000

theorem rowIs_apart {w : World} {b b' t t' n n' : Nat} {f g : Nat → Value} (h : w.rowIs b t n f) (h' : w.rowIs b' t' n' g) (hne : t ≠ t') : b ≠ b' := fun e => by
  subst e
  obtain ⟨c, h1, _⟩ := h
  obtain ⟨c', h1', _⟩ := h'
  rw [h1] at h1'
  exact hne (by injection (Option.some.inj h1'))
theorem tick_none {q : Nat} {O : Nat → Nat} {w : World} {p : Sp} {d : Sd} (h : SIs O q w p d) (hf : d.du = none) :
    Calls Tryz.prog 26 #[.pointer (some ⟨p.sb, 0, none⟩)] w fun e w' => e = .returned (.slice none 0 0) ∧ w = w' := by
  have c3 : w.cell? ⟨p.sb, 3, none⟩ = some (.slice none 0 0) := by have c := h.row.1.cell (i := 3) (by decide); rw [show sCell d.node d.shard p.Rb d.n (dvM p d) 3 = dvM p d from rfl, show dvM p d = .slice none 0 0 by unfold dvM; rw [hf]] at c; exact c
  clear h hf
  go_enter Tryz.func26, Tryz.ntmps26
  go_wp2_with fail
  go_loopg [3, 4, 5, 6, 12] 1 (fun g s3 s4 s5 s6 s12 wx => g = 1 ∧ s3 = .slice none 0 0 ∧ s12 = .int .i64 0 ∧ Hid (w = wx))
  case atStart => exact ⟨rfl, rfl, rfl, rfl⟩
  case round =>
    obtain ⟨rfl, rfl, rfl, HW⟩ := hrel
    go_wp2_with fail
    go_ret
    exact ⟨rfl, HW.out⟩
/-- The closure of Look: what is due to a peer. -/
theorem look1_any {w : World} {bb : Nat} {qa : Option Addr} {qc : Nat} {l : List Ent} (hc : w.cell? ⟨bb, 2, none⟩ = some (.slice qa l.length qc)) (h : QIn w qa l) (hl : l.length ≤ 4000000000000) (q : Int) :
    Calls Tryz.prog 37 #[.int .i64 q, .pointer (some ⟨bb, 0, none⟩)] w fun e w' => ∃ P, e = .returned (.pointer P) ∧ Hid (DuV w.heap.size w' (.pointer P) (dueM l q) ∧ w.Since w.heap.size w') := by
  have HD : Hid (Calls Tryz.prog 38 #[.slice qa l.length qc, .int .i64 q] w fun e w' => ∃ P, e = .returned (.pointer P) ∧ Hid (DuV w.heap.size w' (.pointer P) (dueM l q) ∧ w.Since w.heap.size w')) := (dueOf_any h hl q).mono fun e w' ⟨v, he, hd, hs⟩ => by
    rcases hd with ⟨h1, rfl⟩ | ⟨u, b, h1, rfl, h2⟩
    · exact ⟨none, he, .inl ⟨h1, rfl⟩, hs⟩
    · exact ⟨_, he, .inr ⟨u, b, h1, rfl, h2⟩, hs⟩
  generalize l.length = L at *
  clear h hl
  go_enter Tryz.func37, Tryz.ntmps37
  go_wp2_with (go_at_call 38; refine HD.out.mono ?_; rintro e w2 ⟨P, rfl, HK⟩)
  go_ret
  exact ⟨P, rfl, HK⟩
theorem infoDP : (Tryz.prog.info? 117).map (fun i => (i.zero, i.size, i.bytes)) = some (some (.pointer none), 1, 8) := by kernel_rfl
set_option maxHeartbeats 4000000 in
/-- A row of what is due. -/
theorem fill_due {w : World} {bb : Nat} {qa : Option Addr} {qc : Nat} {l : List Ent} (hc : w.cell? ⟨bb, 2, none⟩ = some (.slice qa l.length qc)) (h : QIn w qa l) (hl : l.length ≤ 4000000000000) (n own : Nat) (hn1 : 1 ≤ n) (hn : n ≤ 8) (ho : own < n) :
    Calls Tryz.prog 36 #[.int .i64 (n : Nat), .int .i64 (own : Nat), .func (.func 37) #[] #[.pointer (some ⟨bb, 0, none⟩)]] w fun e w' => ∃ b : Nat, e = .returned (.slice (some ⟨b, 0, none⟩) n n) ∧ w.heap.size ≤ b ∧ ∃ V : Nat → Option Addr, w'.rowIs b 117 n (fun i => .pointer (V i)) ∧ (∀ i, i < n → DuV w.heap.size w' (.pointer (V i)) (if i = own then none else dueM l (i : Nat))) ∧ w.Since w.heap.size w' := by
  have hmk := run_make_row' (P := Tryz.prog) 73 117 (.pointer none) 8 Tryz.underlying73 infoDP rfl .i64 .i64 n (by omega) (by omega)
  obtain ⟨W1, HW1⟩ : ∃ W, Hid (w.alloc (.cells (madeCells #[.pointer none] n) 117) = W) := ⟨_, rfl⟩
  have r1 : W1.rowIs w.heap.size 117 n (fun _ => .pointer none) := by rw [← HW1.out]; exact World.rowIs_made w _ n _
  have s1 : w.Since w.heap.size W1 := by rw [← HW1.out]; exact (World.Since.refl _ _).alloc (Nat.le_refl _) _
  obtain ⟨b, HB⟩ : ∃ x, Hid (w.heap.size = x) := ⟨_, rfl⟩
  have HX0 : Hid (∃ V : Nat → Option Addr, W1.rowIs b 117 n (fun i => .pointer (V i)) ∧ (∀ i, i < n → DuV w.heap.size W1 (.pointer (V i)) (if i < 0 then (if i = own then none else dueM l (i : Nat)) else none)) ∧ w.Since w.heap.size W1) := ⟨fun _ => none, by rw [← HB.out]; exact r1, fun i _ => .inl ⟨by rw [if_neg (Nat.not_lt_zero i)], rfl⟩, s1⟩
  have HC := hide hc
  have HQ := hide h
  have HL := hide hl
  have HN : Hid (1 ≤ n ∧ n ≤ 8 ∧ own < n) := ⟨hn1, hn, ho⟩
  clear hc h hl hn1 hn ho r1 s1
  go_enter Tryz.func36, Tryz.ntmps36
  go_upto_region 2 with fail
  rw [HW1.out, HB.out]
  clear HW1 hmk
  go_wp2_with fail
  go_loopg [8, 12] n (fun g s8 s12 wx => ∃ i : Nat, i ≤ n ∧ g = n - i ∧ s12 = .int .i64 (i : Nat) ∧ Hid (∃ V : Nat → Option Addr, wx.rowIs b 117 n (fun i => .pointer (V i)) ∧ (∀ j, j < n → DuV w.heap.size wx (.pointer (V j)) (if j < i then (if j = own then none else dueM l (j : Nat)) else none)) ∧ w.Since w.heap.size wx))
  case atStart => exact ⟨0, Nat.zero_le _, rfl, rfl, HX0⟩
  case round =>
    clear HX0
    obtain ⟨i, hi, rfl, rfl, HX⟩ := hrel
    by_cases hlt : i < n
    · have z1 : (i : Int) < (n : Int) := by omega
      have z0 : (0 : Int) ≤ (i : Int) := by omega
      have hwi : IntKind.i64.wrap ((i : Int) + 1) = (i : Int) + 1 := by have := HN.out; rw [IntKind.wrap_i64]; omega
      have hme : n - (i + 1) < n - i := by omega
      have HI := hide hlt
      by_cases hio : i = own
      · have q0 : ((i : Int) != (own : Int)) = false := by simp; omega
        have HZ : Hid (∃ V : Nat → Option Addr, wr.rowIs b 117 n (fun i => .pointer (V i)) ∧ (∀ j, j < n → DuV w.heap.size wr (.pointer (V j)) (if j < i + 1 then (if j = own then none else dueM l (j : Nat)) else none)) ∧ w.Since w.heap.size wr) := by
          obtain ⟨V, h1, h2, h3⟩ := HX.out
          refine ⟨V, h1, fun j hj => ?_, h3⟩
          have q := h2 j hj
          by_cases e : j = i
          · subst e
            rw [if_neg (Nat.lt_irrefl _)] at q
            rw [if_pos (Nat.lt_succ_self _), if_pos hio]
            exact q
          · by_cases e2 : j < i
            · rw [if_pos e2] at q
              rw [if_pos (by omega)]
              exact q
            · rw [if_neg e2] at q
              rw [if_neg (by omega)]
              exact q
        clear HX hi hlt hio
        go_wp2_with fail
        go_roundg (n - (i + 1))
        case measure => go_light; exact hme
        case rel => go_light; exact ⟨i + 1, HI.out, rfl, by simp, HZ⟩
      · have q0 : ((i : Int) != (own : Int)) = true := by simp; omega
        have HCL : Hid (Calls Tryz.prog 37 #[.int .i64 (i : Nat), .pointer (some ⟨bb, 0, none⟩)] wr fun e w' => ∃ P, e = .returned (.pointer P) ∧ (∃ y, w'.cell? ⟨b, i, none⟩ = some y) ∧ w'.frozen? ⟨b, i, none⟩ = false ∧ ∃ W2, Hid (w'.setCell ⟨b, i, none⟩ (.pointer P) = W2) ∧ Hid (∃ V : Nat → Option Addr, W2.rowIs b 117 n (fun i => .pointer (V i)) ∧ (∀ j, j < n → DuV w.heap.size W2 (.pointer (V j)) (if j < i + 1 then (if j = own then none else dueM l (j : Nat)) else none)) ∧ w.Since w.heap.size W2)) := by
          obtain ⟨V, h1, h2, h3⟩ := HX.out
          refine (look1_any (cell_later h3 HC.out) (HQ.out.since h3) HL.out (i : Nat)).mono fun e w' ⟨P, he, hK⟩ => ?_
          obtain ⟨hd, hs⟩ := hK.out
          have h4 := h1.of_block (hs.block b h1.lt)
          have hge : w.heap.size ≤ b := by have := HB.out; omega
          refine ⟨P, he, ⟨_, h4.cell hlt⟩, h4.frozen i, _, rfl, up V i P, (h4.set i (.pointer P)).congr (fun j _ => by unfold up; split <;> rfl), fun j hj => ?_, setNewS (h3.trans (since_mono hs h3.size)) hge _⟩
          have hset : ∀ (v : Value) d, DuV w.heap.size w' v d → DuV w.heap.size (w'.setCell ⟨b, i, none⟩ (.pointer P)) v d := fun v d q => by
            rcases q with q | ⟨u, b2, q1, q2, q3, q4⟩
            · exact .inl q
            · exact .inr ⟨u, b2, q1, q2, q3, q4.of_block (Below.heap_setCell _ _ _ _ (rowIs_apart q4 h4 (by decide)))⟩
          by_cases e : j = i
          · subst e
            rw [up_same, if_pos (Nat.lt_succ_self _), if_neg hio]
            refine hset _ _ ?_
            rcases hd with q | ⟨u, b2, q1, q2, q3, q4⟩
            · exact .inl q
            · exact .inr ⟨u, b2, q1, q2, Nat.le_trans h3.size q3, q4⟩
          · rw [up_ne _ _ _ e]
            have q := hset _ _ ((h2 j hj).since hs)
            by_cases e2 : j < i
            · rw [if_pos e2] at q
              rw [if_pos (by omega)]
              exact q
            · rw [if_neg e2] at q
              rw [if_neg (by omega)]
              exact q
        clear HX hi hlt hio
        go_wp2_with (go_at_call 37; refine HCL.out.mono ?_; rintro e w2 ⟨P, rfl, ⟨y, dy⟩, fy, W2, HW2, HK⟩)
        rw [HW2.out]
        go_wp2_with fail
        go_roundg (n - (i + 1))
        case measure => go_light; exact hme
        case rel => go_light; exact ⟨i + 1, HI.out, rfl, by simp, HK⟩
    · obtain rfl : i = n := by omega
      have z1 : ¬ (i : Int) < (i : Int) := by omega
      clear hi hlt
      go_wp2_with fail
      go_ret
      obtain ⟨V, h1, h2, h3⟩ := HX.out
      exact ⟨b, rfl, by rw [HB.out]; exact Nat.le_refl _, V, h1, fun j hj => by have q := h2 j hj; rw [if_pos hj] at q; exact q, h3⟩
end Go.Proofs.YtdhhjdacidhmjaaGreat

/- Package settle: Look. -/
namespace Go.Proofs.YtdhhjdacidhmjaaGreat
open Go.RowKit
set_option maxRecDepth 100000
set_option maxRecDepth 100000

theorem run_storeVar_cell {P : Program} (w : World) (b o : Nat) (ty : TypeId) (v old : Value) (hc : w.cell? ⟨b, o, none⟩ = some old) (hf : w.frozen? ⟨b, o, none⟩ = false) (hi : (P.info? ty).map (·.size) = some 1) (h1 : v.oneCell' = true) :
    (storeVar ty ⟨b, o, none⟩ v).run P w = .ok () (w.setCell ⟨b, o, none⟩ v) := by
  have := run_storeCells_cells (P := P) b o [v] 0 w (fun j hj => by
    have : j = 0 := by simpa using hj
    subst this
    simp [hc]) (fun j hj => by
    have : j = 0 := by simpa using hj
    subst this
    simpa using hf) (fun x hx => by simp at hx; subst hx; exact h1)
  have hcs : v.cells = #[v] := by cases v <;> first | rfl | cases h1
  cases hq : P.info? ty with
  | none => simp [hq] at hi
  | some i =>
    have hs : i.size = 1 := by simpa [hq] using hi
    simp only [Nat.add_zero] at this
    simp [storeVar, sizeOf, typeInfo, hq, hcs, hs, this]
    rfl
theorem wp_store_cell {P : Program} {op : Oper} {a : Act} {w : World} {K : Act → World → Prop} {Q : Exit → Act → World → Prop} (ty : TypeId) (x y : Operand) (ho : op.op = .store ty x y) (b o : Nat) (v old : Value) (hx : a.eval x = .pointer (some ⟨b, o, none⟩)) (hy : a.eval y = v)
    (hc : w.cell? ⟨b, o, none⟩ = some old) (hf : w.frozen? ⟨b, o, none⟩ = false) (hi : (P.info? ty).map (·.size) = some 1) (h1 : v.oneCell' = true) (h : K (a.put op.dst undef) (w.setCell ⟨b, o, none⟩ v)) : op.wp P a w K Q := by
  unfold Oper.wp execOp
  simp only [ho, hx, hy, Instr.storeAt, Instr.sureAddr, Sem.run_bind, Sem.run_pure, Result.andThen_ok, run_storeVar_cell w b o ty v old hc hf hi h1]
  exact h

/-- What was the first one of a peer. -/
def wasM (d : Sd) (i : Nat) : Option Du := match d.du with | none => none | some f => f i
def shF (d : Sd) (l : List Ent) (i : Nat) : Option Du := if i = d.own then none else dueM l (i : Nat)
def Sd.anew (d : Sd) (i : Nat) : Sd := { d with l := up d.l i 0, g := up d.g i 1 }
def lkN (d : Sd) (l : List Ent) : Nat → Sd
  | 0 => { d with du := some (shF d l) }
  | i + 1 => if begM (shF d l i) (wasM d i) then (lkN d l i).anew i else lkN d l i
/-- What Look makes of it. -/
def lookM (d : Sd) (l : List Ent) : Sd := lkN d l d.n
structure Like2 (d e : Sd) : Prop where
  node : e.node = d.node
  shard : e.shard = d.shard
  n : e.n = d.n
  own : e.own = d.own
  m : e.m = d.m
  c : e.c = d.c
  cp : e.cp = d.cp
  t : e.t = d.t
theorem lkN_like (d : Sd) (l : List Ent) (i : Nat) : Like2 d (lkN d l i) ∧ (lkN d l i).du = some (shF d l) := by
  induction i with
  | zero => exact ⟨⟨rfl, rfl, rfl, rfl, rfl, rfl, rfl, rfl⟩, rfl⟩
  | succ i ih =>
    obtain ⟨h, h2⟩ := ih
    show Like2 d (if _ then _ else _) ∧ (if _ then _ else _ : Sd).du = _
    split
    · exact ⟨⟨h.node, h.shard, h.n, h.own, h.m, h.c, h.cp, h.t⟩, h2⟩
    · exact ⟨h, h2⟩
section
variable {q : Nat} {O O' : Nat → Nat} {w w' : World} {p : Sp} {d : Sd}
theorem SIs.anewed (h : SIs O q w p d) (i : Nat) (hi : i < d.n) (ho : i ≠ d.own) (hp : PcIs w' (p.pb i) 0 1 d.m) (hm : Mv (fun k => k = p.pb i) w w') : SIs O q w' p (d.anew i) ∧ Ch (q + 11 + 3 * i) O O w w' := by
  obtain ⟨_, l2, l3, _⟩ := h.lim
  have hc := (h.pc i hi ho).2
  have k : Ch (q + 11 + 3 * i) O O w w' := ⟨hm.os, hm.tape, hm.output, hm.size, fun _ _ => rfl, fun b hb hn => hm.block b hb (fun e => hn (by rw [e]; exact hc))⟩
  refine ⟨⟨h.row.keep k (by omega), h.roads.keep k (by omega), fun j hj hjo => (h.rd j hj hjo).keep k (by omega), fun j hj hjo => ?_, fun j hj hjo => (h.cps j hj hjo).keep k (by omega), h.tl, fun f hf => ⟨(h.dues f hf).1.keep k (by omega), fun j hj => ((h.dues f hf).2.1 j hj).keep k (by omega), (h.dues f hf).2.2⟩, h.lim⟩, k⟩
  show PcIs w' (p.pb j) (up d.l i 0 j) (up d.g i 1 j) d.m ∧ _
  by_cases e : j = i
  · subst e
    rw [up_same, up_same]
    exact ⟨hp, hc⟩
  · rw [up_ne _ _ _ e, up_ne _ _ _ e]
    exact ⟨(h.pc j hj hjo).1.later (k.block _ (h.pc j hj hjo).1.row.lt (by rw [(h.pc j hj hjo).2]; omega)), (h.pc j hj hjo).2⟩
/-- The book is shown: the row of what is due is the new one. -/
theorem SIs.shown {w2 : World} {b : Nat} {V : Nat → Option Addr} {l : List Ent} (h : SIs O q w p d) (hb : w.heap.size ≤ b) (hr : w2.rowIs b 117 d.n (fun i => .pointer (V i))) (hV : ∀ i, i < d.n → DuV w.heap.size w2 (.pointer (V i)) (if i = d.own then none else dueM l (i : Nat))) (hs : w.Since w.heap.size w2) :
    ∃ O2, SIs O2 q (w2.setCell ⟨p.sb, 3, none⟩ (.slice (some ⟨b, 0, none⟩) d.n d.n)) { p with Db := b, dp := V } (lkN d l 0) ∧ ChR q (q + 40) O O2 w (w2.setCell ⟨p.sb, 3, none⟩ (.slice (some ⟨b, 0, none⟩) d.n d.n)) ∧ Ch q O O2 w (w2.setCell ⟨p.sb, 3, none⟩ (.slice (some ⟨b, 0, none⟩) d.n d.n)) := by
  obtain ⟨l1, l2, l3, _⟩ := h.lim
  have k1 : Ch q O (fun k => if k < w.heap.size then O k else q + 2) w w2 := ⟨hs.os, hs.tape, hs.output, hs.size, fun k hk => if_pos hk, fun k hk _ => hs.block k hk⟩
  have hsl := h.row.1.lt
  have k2 : Ch q O (fun k => if k < w.heap.size then O k else q + 2) w (w2.setCell ⟨p.sb, 3, none⟩ (.slice (some ⟨b, 0, none⟩) d.n d.n)) := k1.trans (Ch.set (by show (if p.sb < w.heap.size then O p.sb else q + 2) = q; rw [if_pos hsl]; exact h.row.2) _ _)
  refine ⟨_, ⟨?_, h.roads.keep k2 (by omega), fun j hj hjo => (h.rd j hj hjo).keep k2 (by omega), fun j hj hjo => ⟨(h.pc j hj hjo).1.later (k2.block _ (h.pc j hj hjo).1.row.lt (by rw [(h.pc j hj hjo).2]; omega)), (k2.col _ (h.pc j hj hjo).1.row.lt).trans (h.pc j hj hjo).2⟩, fun j hj hjo => (h.cps j hj hjo).keep k2 (by omega), h.tl, fun f hf => ?_, h.lim⟩, ChR.of k2 (by omega) (by omega), k2⟩
  · have r := h.row.1.of_block (hs.block _ hsl)
    refine ⟨(r.set 3 _).congr (fun i hi => ?_), (k2.col _ hsl).trans h.row.2⟩
    match i, hi with
    | 0, _ => rfl
    | 1, _ => rfl
    | 2, _ => rfl
    | 3, _ => rfl
  · have hf' : some (shF d l) = some f := hf
    obtain rfl := Option.some.inj hf'
    have hsl2 : p.sb < w.heap.size := hsl
    have hne : b ≠ p.sb := by omega
    refine ⟨⟨hr.of_block (Below.heap_setCell _ _ _ _ hne), show (if b < w.heap.size then O b else q + 2) = q + 2 from if_neg (by omega)⟩, fun i hi => ?_, if_pos rfl⟩
    rcases hV i hi with ⟨h1, h2⟩ | ⟨u, b2, h1, h2, h3, h4⟩
    · exact .inl ⟨h1, Value.pointer.inj h2⟩
    · exact .inr ⟨u, b2, h1, Value.pointer.inj h2, ⟨h4.of_block (Below.heap_setCell _ _ _ _ (by show b2 ≠ p.sb; omega)), show (if b2 < w.heap.size then O b2 else q + 2) = q + 2 from if_neg (by omega)⟩⟩
end
/-- Where the loop of Look stands. -/
def LkL (q : Nat) (O : Nat → Nat) (w : World) (p p2 : Sp) (d : Sd) (l : List Ent) (i : Nat) (W : World) : Prop := ∃ O2, SIs O2 q W p2 (lkN d l i) ∧ ChR q (q + 40) O O2 w W ∧ ∀ f, d.du = some f → RowC O2 (q + 2) W p.Db 117 d.n (fun i => .pointer (p.dp i)) ∧ ∀ i, i < d.n → DuC O2 (q + 2) W (p.dp i) (f i)
set_option maxHeartbeats 8000000 in
theorem look_any {q : Nat} {O : Nat → Nat} {w : World} {p : Sp} {d : Sd} (h : SIs O q w p d) (hsh : d.shard = (d.own : Nat)) {qa : Option Addr} {qc : Nat} {l : List Ent} (hq : QIn w qa l) (hl : l.length ≤ 4000000000000) (x0 x1 x3 x4 x5 : Value) :
    Calls Tryz.prog 17 #[.pointer (some ⟨p.sb, 0, none⟩), .agg #[x0, x1, .slice qa l.length qc, x3, x4, x5]] w fun e w' => e = .returned (.tuple #[]) ∧ ∃ O2, (∃ b V, SIs O2 q w' { p with Db := b, dp := V } (lookM d l)) ∧ ChR q (q + 40) O O2 w w' := by
  obtain ⟨n, hn⟩ : ∃ n, d.n = n := ⟨_, rfl⟩
  obtain ⟨own, ho⟩ : ∃ own, d.own = own := ⟨_, rfl⟩
  obtain ⟨L, hL⟩ : ∃ L, l.length = L := ⟨_, rfl⟩
  obtain ⟨da, dn, dc, hdv⟩ : ∃ da dn dc, dvM p d = .slice da dn dc := by
    unfold dvM
    split
    · exact ⟨_, _, _, rfl⟩
    · exact ⟨_, _, _, rfl⟩
  rw [hL]
  obtain ⟨W1, HW1⟩ : ∃ W, Hid (w.alloc (.cells #[x0, x1, .slice qa L qc, x3, x4, x5] 89) = W) := ⟨_, rfl⟩
  have s1 : w.Since w.heap.size W1 := by rw [← HW1.out]; exact (World.Since.refl _ _).alloc (Nat.le_refl _) _
  have b2 : W1.cell? ⟨w.heap.size, 2, none⟩ = some (.slice qa l.length qc) := by rw [← HW1.out, hL]; simp
  obtain ⟨bb, HBB⟩ : ∃ x, Hid (w.heap.size = x) := ⟨_, rfl⟩
  rw [HBB.out] at b2
  have h1 := h.since s1
  have hlim := h.lim
  have k1 : W1.cell? ⟨p.sb, 1, none⟩ = some (.int .i64 (own : Nat)) := by have c := h1.row.1.cell (i := 1) (by decide); rw [show sCell d.node d.shard p.Rb d.n (dvM p d) 1 = .int .i64 d.shard from rfl, hsh, ho] at c; exact c
  have k2 : W1.cell? ⟨p.sb, 2, none⟩ = some (.slice (some ⟨p.Rb, 0, none⟩) n n) := by have c := h1.row.1.cell (i := 2) (by decide); rw [show sCell d.node d.shard p.Rb d.n (dvM p d) 2 = .slice (some ⟨p.Rb, 0, none⟩) d.n d.n from rfl, hn] at c; exact c
  have k3 : W1.cell? ⟨p.sb, 3, none⟩ = some (.slice da dn dc) := by have c := h1.row.1.cell (i := 3) (by decide); rw [show sCell d.node d.shard p.Rb d.n (dvM p d) 3 = dvM p d from rfl, hdv] at c; exact c
  have HS0 : Hid (W1.drew.cell? ⟨p.sb, 2, none⟩ = some (.slice (some ⟨p.Rb, 0, none⟩) n n) ∧ W1.drew.cell? ⟨p.sb, 1, none⟩ = some (.int .i64 (own : Nat))) := ⟨k2, k1⟩
  have HFI : Hid (Calls Tryz.prog 36 #[.int .i64 (n : Nat), .int .i64 (own : Nat), .func (.func 37) #[] #[.pointer (some ⟨bb, 0, none⟩)]] W1.drew fun e w4 => ∃ b : Nat, e = .returned (.slice (some ⟨b, 0, none⟩) n n) ∧ Hid (w4.cell? ⟨p.sb, 2, none⟩ = some (.slice (some ⟨p.Rb, 0, none⟩) n n) ∧ w4.cell? ⟨p.sb, 1, none⟩ = some (.int .i64 (own : Nat))) ∧ (∃ y, w4.cell? ⟨p.sb, 3, none⟩ = some y) ∧ w4.frozen? ⟨p.sb, 3, none⟩ = false ∧ ∃ W5, Hid (w4.setCell ⟨p.sb, 3, none⟩ (.slice (some ⟨b, 0, none⟩) n n) = W5) ∧ Hid (W5.cell? ⟨p.sb, 2, none⟩ = some (.slice (some ⟨p.Rb, 0, none⟩) n n) ∧ W5.cell? ⟨p.sb, 1, none⟩ = some (.int .i64 (own : Nat))) ∧ Hid (∃ V, LkL q O w p { p with Db := b, dp := V } d l 0 W5)) := by
    have dS : W1.Since W1.heap.size W1.drew := (World.Since.refl _ _).drew
    have s2 := s1.trans (since_mono dS s1.size)
    have hd := h1.since dS
    rw [← hn, ← ho]
    refine (fill_due (w := W1.drew) b2 (hq.since s2) hl d.n d.own hlim.1 hlim.2.1 hlim.2.2.1).mono fun e w4 ⟨b, he, hge, V, hr, hV, hs⟩ => ?_
    have hr4 := hd.row.1.of_block (hs.block _ hd.row.1.lt)
    obtain ⟨O2, g1, g2, g3⟩ := hd.shown hge hr hV hs
    have c1 := g1.row.1.cell (i := 1) (by decide)
    have c2 := g1.row.1.cell (i := 2) (by decide)
    rw [show sCell (lkN d l 0).node (lkN d l 0).shard p.Rb (lkN d l 0).n (dvM { p with Db := b, dp := V } (lkN d l 0)) 1 = .int .i64 d.shard from rfl, hsh] at c1
    have e1 := hr4.cell (i := 1) (by decide)
    rw [show sCell d.node d.shard p.Rb d.n (dvM p d) 1 = .int .i64 d.shard from rfl, hsh] at e1
    exact ⟨b, he, ⟨hr4.cell (i := 2) (by decide), e1⟩, ⟨_, hr4.cell (i := 3) (by decide)⟩, hr4.frozen 3, _, rfl, ⟨c2, c1⟩, V, O2, g1, (ChR.since s2).trans g2, fun f hf => ⟨((h.dues f hf).1.keep (x := q + 3) (Ch.since s2) (by omega)).keep g3 (by omega), fun i hi => (((h.dues f hf).2.1 i hi).keep (x := q + 3) (Ch.since s2) (by omega)).keep g3 (by omega)⟩⟩
  have HDV := hide hdv
  have HN := hide hn
  have HO := hide ho
  have HLIM := hide hlim
  clear s1 b2 h1 k1 k2 hsh hq hl hL hn ho hdv h hlim
  go_enter Tryz.func17, Tryz.ntmps17
  go_upto_region 1 with fail
  rw [HW1.out, HBB.out]
  go_upto_region 2 with fail
  clear k3 HW1
  refine wp_region_held_drew (S := fun W => W.cell? ⟨p.sb, 2, none⟩ = some (.slice (some ⟨p.Rb, 0, none⟩) n n) ∧ W.cell? ⟨p.sb, 1, none⟩ = some (.int .i64 (own : Nat))) (by kernel_rfl) HS0.out fun _ => ?_
  refine wpAnyH_take (i := 0) (v := .pointer (some ⟨p.sb, 0, none⟩)) rfl (by kernel_rfl) (by kernel_rfl) (by kernel_rfl) (fun _ _ _ h => h) (.inl ⟨rfl, fun W hW => by kernel_rfl⟩) HS0.out ?_
  simp only [List.getElem_toArray, List.getElem_cons_zero, Act.put, List.setIfInBounds_toArray, List.set_cons_zero, List.set_cons_succ]
  refine wpAnyH_take (i := 1) (v := .pointer (some ⟨p.sb, 0, none⟩)) rfl (by kernel_rfl) (by kernel_rfl) (by kernel_rfl) (fun _ _ _ h => h) (.inl ⟨rfl, fun W hW => by kernel_rfl⟩) HS0.out ?_
  simp only [List.getElem_toArray, List.getElem_cons_zero, List.getElem_cons_succ, Act.put, List.setIfInBounds_toArray, List.set_cons_zero, List.set_cons_succ]
  refine wpAnyH_take (i := 2) (v := .pointer (some ⟨p.sb, 0, none⟩)) rfl (by kernel_rfl) (by kernel_rfl) (by kernel_rfl) (fun _ _ _ h => h) (.inl ⟨rfl, fun W hW => by first | kernel_rfl | go_simp⟩) HS0.out ?_
  simp only [List.getElem_toArray, List.getElem_cons_zero, List.getElem_cons_succ, Act.put, List.setIfInBounds_toArray, List.set_cons_zero, List.set_cons_succ]
  refine wpAnyH_take (i := 3) (v := .pointer (some ⟨p.sb, 2, none⟩)) rfl (by kernel_rfl) (by kernel_rfl) (by kernel_rfl) (fun _ _ _ h => h) (.inl ⟨rfl, fun W hW => by kernel_rfl⟩) HS0.out ?_
  simp only [List.getElem_toArray, List.getElem_cons_zero, List.getElem_cons_succ, Act.put, List.setIfInBounds_toArray, List.set_cons_zero, List.set_cons_succ]
  refine wpAnyH_take (i := 4) (v := .slice (some ⟨p.Rb, 0, none⟩) n n) rfl (by kernel_rfl) (by kernel_rfl) (by kernel_rfl) (fun _ _ _ h => h) (.inl ⟨rfl, fun W hW => by have c := hW.1; go_simp⟩) HS0.out ?_
  simp only [List.getElem_toArray, List.getElem_cons_zero, List.getElem_cons_succ, Act.put, List.setIfInBounds_toArray, List.set_cons_zero, List.set_cons_succ]
  refine wpAnyH_take (i := 5) (v := .int .i64 (n : Nat)) rfl (by kernel_rfl) (by kernel_rfl) (by kernel_rfl) (fun _ _ _ h => h) (.inl ⟨rfl, fun W hW => by go_simp⟩) HS0.out ?_
  simp only [List.getElem_toArray, List.getElem_cons_zero, List.getElem_cons_succ, Act.put, List.setIfInBounds_toArray, List.set_cons_zero, List.set_cons_succ]
  refine wpAnyH_take (i := 6) (v := .pointer (some ⟨p.sb, 0, none⟩)) rfl (by kernel_rfl) (by kernel_rfl) (by kernel_rfl) (fun _ _ _ h => h) (.inl ⟨rfl, fun W hW => by kernel_rfl⟩) HS0.out ?_
  simp only [List.getElem_toArray, List.getElem_cons_zero, List.getElem_cons_succ, Act.put, List.setIfInBounds_toArray, List.set_cons_zero, List.set_cons_succ]
  refine wpAnyH_take (i := 7) (v := .pointer (some ⟨p.sb, 0, none⟩)) rfl (by kernel_rfl) (by kernel_rfl) (by kernel_rfl) (fun _ _ _ h => h) (.inl ⟨rfl, fun W hW => by first | kernel_rfl | go_simp⟩) HS0.out ?_
  simp only [List.getElem_toArray, List.getElem_cons_zero, List.getElem_cons_succ, Act.put, List.setIfInBounds_toArray, List.set_cons_zero, List.set_cons_succ]
  refine wpAnyH_take (i := 8) (v := .pointer (some ⟨p.sb, 1, none⟩)) rfl (by kernel_rfl) (by kernel_rfl) (by kernel_rfl) (fun _ _ _ h => h) (.inl ⟨rfl, fun W hW => by kernel_rfl⟩) HS0.out ?_
  simp only [List.getElem_toArray, List.getElem_cons_zero, List.getElem_cons_succ, Act.put, List.setIfInBounds_toArray, List.set_cons_zero, List.set_cons_succ]
  refine wpAnyH_take (i := 9) (v := .int .i64 (own : Nat)) rfl (by kernel_rfl) (by kernel_rfl) (by kernel_rfl) (fun _ _ _ h => h) (.inl ⟨rfl, fun W hW => by have c := hW.2; go_simp⟩) HS0.out ?_
  simp only [List.getElem_toArray, List.getElem_cons_zero, List.getElem_cons_succ, Act.put, List.setIfInBounds_toArray, List.set_cons_zero, List.set_cons_succ]
  refine wpAnyH_take (i := 10) (v := .func (.func 37) #[] #[.pointer (some ⟨bb, 0, none⟩)]) rfl (by kernel_rfl) (by kernel_rfl) (by kernel_rfl) (fun _ _ _ h => h) (.inl ⟨rfl, fun W hW => by kernel_rfl⟩) HS0.out ?_
  simp only [List.getElem_toArray, List.getElem_cons_zero, List.getElem_cons_succ, Act.put, List.setIfInBounds_toArray, List.set_cons_zero, List.set_cons_succ]
  refine wpAnyH_ready (rs := [11]) (by kernel_rfl) (by simp) ?_
  refine AllReadyH.cons rfl (fun KC hKC => ?_) AllReadyH.nil
  refine step_callW rfl 36 #[.int .i64 (n : Nat), .int .i64 (own : Nat), .func (.func 37) #[] #[.pointer (some ⟨bb, 0, none⟩)]] (by kernel_rfl) HFI.out ?_
  rintro e' w4 ⟨b, rfl, HS4, ⟨y, dy⟩, fy, W5, HW5, HS5, HX5⟩
  refine ⟨_, rfl, hKC.out _ _ HS4.out fun _ => ?_⟩
  clear hKC HFI
  simp only [List.getElem_toArray, List.getElem_cons_zero, List.getElem_cons_succ, Act.put, List.setIfInBounds_toArray, List.set_cons_zero, List.set_cons_succ]
  
  refine wpAnyH_take (i := 12) (v := .pointer (some ⟨p.sb, 0, none⟩)) rfl (by kernel_rfl) (by kernel_rfl) (by kernel_rfl) (fun _ _ _ h => h) (.inl ⟨rfl, fun W hW => by first | kernel_rfl | go_simp⟩) HS4.out ?_
  simp only [List.getElem_toArray, List.getElem_cons_zero, List.getElem_cons_succ, Act.put, List.setIfInBounds_toArray, List.set_cons_zero, List.set_cons_succ]
  refine wpAnyH_take (i := 13) (v := .pointer (some ⟨p.sb, 3, none⟩)) rfl (by kernel_rfl) (by kernel_rfl) (by kernel_rfl) (fun _ _ _ h => h) (.inl ⟨rfl, fun W hW => by kernel_rfl⟩) HS4.out ?_
  simp only [List.getElem_toArray, List.getElem_cons_zero, List.getElem_cons_succ, Act.put, List.setIfInBounds_toArray, List.set_cons_zero, List.set_cons_succ]
  refine wpAnyH_ready (rs := [14]) (by kernel_rfl) (by simp) ?_
  refine AllReadyH.cons rfl (fun KC hKC => ?_) AllReadyH.nil
  refine step_storeM rfl (wp_store_cell 73 (.tmp 23) (.tmp 21) rfl p.sb 3 (.slice (some ⟨b, 0, none⟩) n n) y rfl rfl dy fy (by kernel_rfl) rfl ?_)
  rw [HW5.out]
  refine hKC.out _ _ HS5.out fun _ => ?_
  clear hKC
  simp only [List.getElem_toArray, List.getElem_cons_zero, List.getElem_cons_succ, Act.put]
  refine wpAnyH_done (by kernel_rfl) ?_ _
  clear HS0 HS4 HS5 HW5 dy fy
  obtain ⟨V, HX5'⟩ : ∃ V, Hid (LkL q O w p { p with Db := b, dp := V } d l 0 W5) := HX5.out
  clear HX5
  have c3 : W5.cell? ⟨p.sb, 3, none⟩ = some (.slice (some ⟨b, 0, none⟩) n n) := by
    obtain ⟨O2, g1, _⟩ := HX5'.out
    have c := g1.row.1.cell (i := 3) (by decide)
    rw [show sCell (lkN d l 0).node (lkN d l 0).shard p.Rb (lkN d l 0).n (dvM { p with Db := b, dp := V } (lkN d l 0)) 3 = .slice (some ⟨b, 0, none⟩) d.n d.n from rfl, HN.out] at c
    exact c
  go_wp2_with fail
  clear c3
  go_loopg [5, 29] n (fun g s5 s29 wx => ∃ i : Nat, i ≤ n ∧ g = n - i ∧ s29 = .int .i64 (i : Nat) ∧ Hid (LkL q O w p { p with Db := b, dp := V } d l i wx))
  case atStart => exact ⟨0, Nat.zero_le _, rfl, rfl, HX5'⟩
  case round =>
    clear HX5'
    obtain ⟨i, hi, rfl, rfl, HX⟩ := hrel
    by_cases hlt : i < n
    · have z1 : (i : Int) < (n : Int) := by omega
      have z0 : (0 : Int) ≤ (i : Int) := by omega
      have hwi : IntKind.i64.wrap ((i : Int) + 1) = (i : Int) + 1 := by have := HLIM.out.2.1; have := HN.out; rw [IntKind.wrap_i64]; omega
      have hme : n - (i + 1) < n - i := by omega
      have HI := hide hlt
      obtain ⟨O2, g1, g2, g3⟩ := HX.out
      obtain ⟨hLk, hdu⟩ := lkN_like d l i
      have HST : Hid (lkN d l (i + 1) = if begM (shF d l i) (wasM d i) then (lkN d l i).anew i else lkN d l i) := rfl
      obtain ⟨D, hD⟩ : ∃ D, lkN d l i = D := ⟨_, rfl⟩
      rw [hD] at g1 hLk hdu HST
      have hn : D.n = n := hLk.n.trans HN.out
      have hin : i < D.n := by omega
      obtain ⟨hdr, hdd, hdo⟩ := g1.dues _ hdu
      have c2 : wr.cell? ⟨p.sb, 2, none⟩ = some (.slice (some ⟨p.Rb, 0, none⟩) n n) := by have c := g1.row.1.cell (i := 2) (by decide); rw [show sCell D.node D.shard p.Rb D.n (dvM { p with Db := b, dp := V } D) 2 = .slice (some ⟨p.Rb, 0, none⟩) D.n D.n from rfl, hn] at c; exact c
      have c3 : wr.cell? ⟨p.sb, 3, none⟩ = some (.slice (some ⟨b, 0, none⟩) n n) := by
        have c := g1.row.1.cell (i := 3) (by decide)
        rw [show sCell D.node D.shard p.Rb D.n (dvM { p with Db := b, dp := V } D) 3 = dvM { p with Db := b, dp := V } D from rfl, show dvM { p with Db := b, dp := V } D = .slice (some ⟨b, 0, none⟩) D.n D.n by unfold dvM; rw [hdu], hn] at c
        exact c
      obtain ⟨Q0, HWAS, HA2⟩ : ∃ Q0, Hid (DuP wr Q0 (wasM d i)) ∧ Hid (Calls Tryz.prog 39 #[.slice da dn dc, .int .i64 (i : Nat)] wr fun e w' => e = .returned (.pointer Q0) ∧ wr = w') := by
        cases hd0 : d.du with
        | none =>
          have e : dvM p d = .slice none 0 0 := by unfold dvM; rw [hd0]
          rw [HDV.out] at e
          injection e with e1 e2 e3
          rw [e1, e2, e3]
          exact ⟨none, .inl ⟨by unfold wasM; rw [hd0], rfl⟩, at_due_out _ (by omega)⟩
        | some f0 =>
          have e : dvM p d = .slice (some ⟨p.Db, 0, none⟩) d.n d.n := by unfold dvM; rw [hd0]
          rw [HDV.out] at e
          injection e with e1 e2 e3
          obtain ⟨r0, r1⟩ := g3 f0 hd0
          rw [e1, e2, e3]
          refine ⟨p.dp i, ?_, at_due r0.1 i (by have := HN.out; omega) _ rfl⟩
          have q := (r1 i (by have := HN.out; omega)).p
          unfold wasM
          rw [hd0]
          exact q
      have HA1 : Hid (Calls Tryz.prog 39 #[.slice (some ⟨b, 0, none⟩) n n, .int .i64 (i : Nat)] wr fun e w' => e = .returned (.pointer (V i)) ∧ wr = w') := by rw [← hn]; exact at_due hdr.1 i hin _ rfl
      have HBG : Hid (Calls Tryz.prog 40 #[.pointer (V i), .pointer Q0] wr fun e w' => e = .returned (.bool (begM (shF d l i) (wasM d i))) ∧ ∃ k, w' = wr.drewN k) := begins_any (hdd i hin).p HWAS.out
      have HZ : Hid (begM (shF d l i) (wasM d i) = false → ∀ k, LkL q O w p { p with Db := b, dp := V } d l (i + 1) (wr.drewN k)) := fun hb k => by
        have s0 : wr.Since wr.heap.size (wr.drewN k) := ⟨rfl, rfl, rfl, Nat.le_refl _, fun _ _ => rfl⟩
        refine ⟨O2, ?_, g2.trans (ChR.since s0), fun f hf => ⟨(g3 f hf).1.keep (x := q + 3) (Ch.since s0) (by omega), fun j hj => ((g3 f hf).2 j hj).keep (x := q + 3) (Ch.since s0) (by omega)⟩⟩
        rw [HST.out, hb]
        exact g1.since s0
      have HGO : Hid (begM (shF d l i) (wasM d i) = true → i ≠ D.own ∧ ∀ k, (wr.drewN k).cell? ⟨p.rb i, 0, none⟩ = some (.pointer (some ⟨p.pb i, 0, none⟩)) ∧ Calls Tryz.prog 41 #[.slice (some ⟨p.Rb, 0, none⟩) n n, .int .i64 (i : Nat)] (wr.drewN k) (fun e w' => e = .returned (.pointer (some ⟨p.rb i, 0, none⟩)) ∧ wr.drewN k = w') ∧ Calls Tryz.prog 42 #[.pointer (some ⟨p.pb i, 0, none⟩)] (wr.drewN k) (fun e w' => e = .returned (.tuple #[]) ∧ Hid (LkL q O w p { p with Db := b, dp := V } d l (i + 1) w'))) := fun hb => by
        have hio : i ≠ D.own := fun e => by
          have : shF d l i = none := if_pos (by rw [e, hLk.own])
          rw [this] at hb
          cases hb
        refine ⟨hio, fun k => ?_⟩
        have s0 : wr.Since wr.heap.size (wr.drewN k) := ⟨rfl, rfl, rfl, Nat.le_refl _, fun _ _ => rfl⟩
        have h3 := g1.since s0
        refine ⟨(h3.rd i hin hio).1.cell (i := 0) (by decide), ?_, ?_⟩
        · rw [← hn]
          exact at_road h3.roads.1 i hin _ (by rw [if_neg hio])
        · refine (reset_any (h3.pc i hin hio).1).mono fun e w' ⟨he, hp, hm⟩ => ⟨he, O2, ?_⟩
          obtain ⟨g4, k4⟩ := h3.anewed i hin hio hp hm
          have l8 := HLIM.out.2.1
          have hin8 : i < 8 := by have := HN.out; omega
          refine ⟨?_, (g2.trans (ChR.since s0)).trans (ChR.of k4 (by omega) (by omega)), fun f hf => ⟨((g3 f hf).1.keep (x := q + 3) (Ch.since s0) (by omega)).keep k4 (by omega), fun j hj => (((g3 f hf).2 j hj).keep (x := q + 3) (Ch.since s0) (by omega)).keep k4 (by omega)⟩⟩
          rw [HST.out, hb]
          exact g4
      clear HWAS HX hi hlt HST hD hn hin hdr hdd hdo g1 g2 g3 hLk hdu
      cases hb : begM (shF d l i) (wasM d i) with
      | false =>
        rw [hb] at HBG
        have HZZ := hide (HZ.out hb)
        clear HZ HGO hb c2
        go_wp2_with (first
          | (go_at_call 39; with_reducible refine HA1.out.mono ?_; rintro e w6 ⟨rfl, rfl⟩)
          | (go_at_call 39; with_reducible refine HA2.out.mono ?_; rintro e w6 ⟨rfl, rfl⟩)
          | (go_at_call 40; with_reducible refine HBG.out.mono ?_; rintro e w6 ⟨rfl, kq, rfl⟩))
        go_roundg (n - (i + 1))
        case measure => go_light; exact hme
        case rel => go_light; exact ⟨i + 1, HI.out, rfl, by simp, HZZ.out _⟩
      | true =>
        rw [hb] at HBG
        have HGG := hide (HGO.out hb).2
        clear HZ HGO hb
        go_upto_region 7 with (first
          | (go_at_call 39; with_reducible refine HA1.out.mono ?_; rintro e w6 ⟨rfl, rfl⟩)
          | (go_at_call 39; with_reducible refine HA2.out.mono ?_; rintro e w6 ⟨rfl, rfl⟩)
          | (go_at_call 40; with_reducible refine HBG.out.mono ?_; rintro e w6 ⟨rfl, kq, rfl⟩))
        obtain ⟨r0, hat, hrs⟩ := HGG.out kq
        have HAT := hide hat
        have HRS := hide hrs
        have c2q : (wr.drewN kq).cell? ⟨p.sb, 2, none⟩ = some (.slice (some ⟨p.Rb, 0, none⟩) n n) := c2
        clear hat hrs HGG HA1 HA2 HBG c2 c3
        go_wp2_with (first
          | (go_at_call 41; with_reducible refine HAT.out.mono ?_; rintro e w6 ⟨rfl, rfl⟩)
          | (go_at_call 42; with_reducible refine HRS.out.mono ?_; rintro e w6 ⟨rfl, HK⟩))
        go_roundg (n - (i + 1))
        case measure => go_light; exact hme
        case rel => go_light; exact ⟨i + 1, HI.out, rfl, by simp, HK⟩
    · obtain rfl : i = n := by omega
      have z1 : ¬ (i : Int) < (i : Int) := by omega
      clear hi hlt
      go_wp2_with fail
      go_end0
      obtain ⟨O2, g1, g2, _⟩ := HX.out
      refine ⟨rfl, O2, ⟨b, V, ?_⟩, g2⟩
      unfold lookM
      rw [HN.out]
      exact g1
end Go.Proofs.YtdhhjdacidhmjaaGreat

/- Whole numbers as words of binary floating point: exact below 2^53. No program here. -/
namespace Go.Proofs.YtdhhjdacidhmjaaGreat
open Ieee

/-- The word b stands for the whole number n (a zero may have either sign). -/
def Fl (b : Nat) (n : Int) : Prop :=
  ∃ (s : Bool) (m q : Nat), double.read b = .number s m (-(q : Int)) ∧ m = n.natAbs * 2 ^ q ∧ (n ≠ 0 → s = decide (n < 0)) ∧ n.natAbs < 2 ^ 53

theorem zero_fl (b : Nat) (s : Bool) (q : Nat) (h : double.read b = .number s 0 (-(q : Int))) : Fl b 0 :=
  ⟨s, 0, q, h, (Nat.zero_mul _).symm, fun h => absurd rfl h, by decide⟩

theorem log2_shift (k q : Nat) (hk : 0 < k) : (k * 2 ^ q).log2 = k.log2 + q := by
  have h1 : k * 2 ^ q ≠ 0 := by
    have := Nat.two_pow_pos q
    exact Nat.ne_of_gt (Nat.mul_pos hk this)
  have h2 : k.log2 + q ≤ (k * 2 ^ q).log2 := by
    rw [Nat.le_log2 h1, Nat.pow_add]
    exact Nat.mul_le_mul_right _ (Nat.log2_self_le (by omega))
  have h3 : (k * 2 ^ q).log2 < k.log2 + q + 1 := by
    rw [Nat.log2_lt h1]
    have : k < 2 ^ (k.log2 + 1) := Nat.lt_log2_self
    have : k * 2 ^ q < 2 ^ (k.log2 + 1) * 2 ^ q := Nat.mul_lt_mul_of_pos_right this (Nat.two_pow_pos q)
    rw [← Nat.pow_add] at this
    have e : k.log2 + 1 + q = k.log2 + q + 1 := by omega
    rwa [e] at this
  omega

theorem cut_exact (s : Bool) (a d : Nat) (ha : 0 < a) : Toward.even.cut s (a * 2 ^ d) d = a := by
  have hl : min d ((a * 2 ^ d).log2 + 2) = d := by
    rw [log2_shift a d ha]; omega
  have hp := Nat.two_pow_pos d
  unfold Toward.cut
  simp only [hl, Nat.shiftLeft_eq, Nat.one_mul]
  rw [Nat.mul_div_cancel _ hp, Nat.mul_mod_left]
  have h1 : ¬ (2 ^ d < 2 * 0) := by omega
  have h2 : ¬ (2 ^ d = 2 * 0) := by omega
  simp [h1]

theorem nearest_exact (s : Bool) (k q : Nat) (hk : 0 < k) (hb : k < 2 ^ 53) :
    double.nearest s (k * 2 ^ q) (-(q : Int)) = double.word s ((k.log2 + 1022) * 2 ^ 52 + k * 2 ^ (52 - k.log2)) := by
  have hne : k * 2 ^ q ≠ 0 := Nat.ne_of_gt (Nat.mul_pos hk (Nat.two_pow_pos q))
  have he : k.log2 < 53 := by rw [Nat.log2_lt (by omega)]; exact hb
  have hkl : 2 ^ 52 ≤ k * 2 ^ (52 - k.log2) := by
    have h1 := Nat.log2_self_le (n := k) (by omega)
    have h2 := Nat.mul_le_mul_right (2 ^ (52 - k.log2)) h1
    rw [← Nat.pow_add] at h2
    have e : k.log2 + (52 - k.log2) = 52 := by omega
    rwa [e] at h2
  have hkh : k * 2 ^ (52 - k.log2) < 2 ^ 53 := by
    have h1 : k < 2 ^ (k.log2 + 1) := Nat.lt_log2_self
    have h2 := Nat.mul_lt_mul_of_pos_right h1 (Nat.two_pow_pos (52 - k.log2))
    rw [← Nat.pow_add] at h2
    have e : k.log2 + 1 + (52 - k.log2) = 53 := by omega
    rwa [e] at h2
  have hlp : double.leastPlace = -1074 := by decide
  have hfb : (double.fractionBits : Int) = 52 := rfl
  have hbi : double.binade = 2 ^ 52 := rfl
  have hin : double.infRung = 2047 * 2 ^ 52 := rfl
  unfold Format.nearest
  rw [if_neg hne]
  simp only [log2_shift k q hk, hlp, hfb, hbi, hin]
  have hlast : max (-(q : Int) + ((k.log2 + q : Nat) : Int) - 52) (-1074) = (k.log2 : Int) - 52 := by omega
  rw [hlast]
  have hr : ((k.log2 : Int) - 52 - -1074).toNat = k.log2 + 1022 := by omega
  rw [hr]
  have hkept : Toward.even.cut s ((k * 2 ^ q) <<< (-(q : Int) - ((k.log2 : Int) - 52)).toNat) ((k.log2 : Int) - 52 - -(q : Int)).toNat = k * 2 ^ (52 - k.log2) := by
    by_cases hq : q ≤ 52 - k.log2
    · have e1 : (-(q : Int) - ((k.log2 : Int) - 52)).toNat = 52 - k.log2 - q := by omega
      have e2 : ((k.log2 : Int) - 52 - -(q : Int)).toNat = 0 := by omega
      rw [e1, e2, Nat.shiftLeft_eq, Nat.mul_assoc, ← Nat.pow_add]
      have e3 : q + (52 - k.log2 - q) = 52 - k.log2 := by omega
      rw [e3]
      have := cut_exact s (k * 2 ^ (52 - k.log2)) 0 (by omega)
      simpa using this
    · have e1 : (-(q : Int) - ((k.log2 : Int) - 52)).toNat = 0 := by omega
      have e2 : ((k.log2 : Int) - 52 - -(q : Int)).toNat = q - (52 - k.log2) := by omega
      rw [e1, e2, Nat.shiftLeft_eq, Nat.pow_zero, Nat.mul_one]
      have e3 : k * 2 ^ q = (k * 2 ^ (52 - k.log2)) * 2 ^ (q - (52 - k.log2)) := by
        rw [Nat.mul_assoc, ← Nat.pow_add]; congr 2; omega
      rw [e3]
      exact cut_exact s _ _ (by omega)
  rw [hkept]
  congr 1
  have : 2 ^ 53 = 2 * 2 ^ 52 := by rfl
  generalize 2 ^ 52 = B at *
  have h1 : (k.log2 + 1022) * B ≤ (52 + 1022) * B := Nat.mul_le_mul_right _ (by omega)
  omega

theorem read_word (s : Bool) (e f : Nat) (he : e ≤ 52) (h1 : 2 ^ 52 ≤ f) (h2 : f < 2 ^ 53) :
    double.read (double.word s ((e + 1022) * 2 ^ 52 + f)) = .number s f ((e : Int) - 52) := by
  have hlp : double.leastPlace = -1074 := by decide
  have hbi : double.binade = 2 ^ 52 := rfl
  have hin : double.infRung = 2047 * 2 ^ 52 := rfl
  have hsw : double.signWeight = 2 ^ 63 := rfl
  have h53 : (2:Nat) ^ 53 = 2 * 2 ^ 52 := by rfl
  have h63 : (2:Nat) ^ 63 = 2048 * 2 ^ 52 := by rfl
  have hB : (0:Nat) < 2 ^ 52 := Nat.two_pow_pos 52
  rw [h53] at h2
  simp only [Format.read, Format.word, hsw, hbi, hin, hlp, h63]
  clear hlp hbi hin hsw h53 h63
  revert h1 h2 hB
  generalize (2:Nat) ^ 52 = B
  intro h1 h2 hB
  obtain ⟨g, rfl⟩ : ∃ g, f = B + g := ⟨f - B, by omega⟩
  have hg : g < B := by omega
  have hrung : (e + 1022) * B + (B + g) = (e + 1023) * B + g := by
    have : (e + 1023) * B = (e + 1022) * B + B := by rw [show e + 1023 = (e + 1022) + 1 from rfl, Nat.add_mul, Nat.one_mul]
    omega
  rw [hrung]
  have hlt : (e + 1023) * B + g < 2047 * B := by
    have : (e + 1023) * B ≤ 1075 * B := Nat.mul_le_mul_right _ (by omega)
    omega
  have hge : ¬ ((e + 1023) * B + g < B) := by
    have : 1023 * B ≤ (e + 1023) * B := Nat.mul_le_mul_right _ (by omega)
    omega
  have hd : ((e + 1023) * B + g) / B = e + 1023 := by
    rw [Nat.mul_comm, Nat.mul_add_div hB, Nat.div_eq_of_lt hg, Nat.add_zero]
  have hm : ((e + 1023) * B + g) % B = g := by
    rw [Nat.mul_comm, Nat.mul_add_mod, Nat.mod_eq_of_lt hg]
  generalize (e + 1023) * B + g = R at *
  have hRs : R < 2048 * B := by omega
  have hmod : (if s = true then 2048 * B + R else R) % (2048 * B) = R := by
    cases s
    · simp [Nat.mod_eq_of_lt hRs]
    · simp only [if_true, Nat.add_mod_left, Nat.mod_eq_of_lt hRs]
  have hneg : ((if s = true then 2048 * B + R else R) / (2048 * B) % 2 == 1) = s := by
    cases s
    · have : R / (2048 * B) = 0 := Nat.div_eq_of_lt hRs
      simp only [Bool.false_eq_true, if_false, this]; rfl
    · have : (2048 * B + R) / (2048 * B) = 1 := by
        rw [Nat.add_div_left _ (by omega), Nat.div_eq_of_lt hRs]
      simp only [if_true, this]; rfl
  rw [hmod, hneg, if_neg hge, if_pos hlt, hm, hd]
  have : (-1074 : Int) + ((e + 1023 - 1 : Nat) : Int) = (e : Int) - 52 := by omega
  rw [this]

theorem read_zero (s : Bool) : double.read (double.word s 0) = .number s 0 (-1074) := by
  cases s <;> decide +kernel

/-- What is written of a whole number is that number's word. -/
theorem fl_write (s : Bool) (n : Int) (q : Nat) (hs : n ≠ 0 → s = decide (n < 0)) (hb : n.natAbs < 2 ^ 53) :
    Fl (double.nearest s (n.natAbs * 2 ^ q) (-(q : Int))) n := by
  by_cases h0 : n = 0
  · subst h0
    refine zero_fl _ s 1074 ?_
    have : double.nearest s ((0 : Int).natAbs * 2 ^ q) (-(q : Int)) = double.word s 0 := by
      unfold Format.nearest; simp
    rw [this]; exact read_zero s
  · have hk : 0 < n.natAbs := by omega
    have he : n.natAbs.log2 < 53 := by rw [Nat.log2_lt (by omega)]; exact hb
    rw [nearest_exact s _ q hk hb]
    refine ⟨s, n.natAbs * 2 ^ (52 - n.natAbs.log2), 52 - n.natAbs.log2, ?_, rfl, hs, hb⟩
    rw [read_word s _ _ (by omega)]
    · congr 1; omega
    · have h1 := Nat.log2_self_le (n := n.natAbs) (by omega)
      have h2 := Nat.mul_le_mul_right (2 ^ (52 - n.natAbs.log2)) h1
      rw [← Nat.pow_add] at h2
      have e : n.natAbs.log2 + (52 - n.natAbs.log2) = 52 := by omega
      rwa [e] at h2
    · have h1 : n.natAbs < 2 ^ (n.natAbs.log2 + 1) := Nat.lt_log2_self
      have h2 := Nat.mul_lt_mul_of_pos_right h1 (Nat.two_pow_pos (52 - n.natAbs.log2))
      rw [← Nat.pow_add] at h2
      have e : n.natAbs.log2 + 1 + (52 - n.natAbs.log2) = 53 := by omega
      rwa [e] at h2

/-- The number that the sign and the magnitude tell. -/
theorem signed_fl {s : Bool} {m q : Nat} {n : Int} (hm : m = n.natAbs * 2 ^ q) (hs : n ≠ 0 → s = decide (n < 0)) (u : Nat) :
    signed s m u = n * 2 ^ (q + u) := by
  have e : ((m <<< u : Nat) : Int) = (n.natAbs : Int) * 2 ^ (q + u) := by
    rw [Nat.shiftLeft_eq, hm, Nat.mul_assoc, ← Nat.pow_add]
    simp [Int.natCast_mul, Int.natCast_pow]
  unfold signed
  rw [e]
  by_cases h0 : n = 0
  · subst h0; simp
  · rw [hs h0]
    by_cases hn : n < 0
    · have : (n.natAbs : Int) = -n := by omega
      simp [hn, this, Int.neg_mul]
    · have : (n.natAbs : Int) = n := by omega
      simp [hn, this]

theorem natAbs_mul_pow (n : Int) (Q : Nat) : (n * 2 ^ Q).natAbs = n.natAbs * 2 ^ Q := by
  rw [Int.natAbs_mul, Int.natAbs_pow]; rfl

theorem pow_pos_int (Q : Nat) : (0 : Int) < 2 ^ Q := by
  have := Nat.two_pow_pos Q
  have : ((2 ^ Q : Nat) : Int) > 0 := by omega
  simpa using this

theorem mul_pow_neg (n : Int) (Q : Nat) : (n * 2 ^ Q < 0) ↔ n < 0 := by
  have := pow_pos_int Q
  constructor
  · intro h
    by_cases hn : n < 0
    · exact hn
    · have := Int.mul_nonneg (a := n) (b := 2 ^ Q) (by omega) (by omega)
      omega
  · intro h
    exact Int.mul_neg_of_neg_of_pos h this

theorem mul_pow_zero (n : Int) (Q : Nat) : (n * 2 ^ Q = 0) ↔ n = 0 := by
  have := pow_pos_int Q
  constructor
  · intro h
    rcases Int.mul_eq_zero.mp h with h | h
    · exact h
    · omega
  · intro h; subst h; simp

theorem sum_fl {s t : Bool} {m k i j : Nat} {a b : Int} (hm : m = a.natAbs * 2 ^ i) (hs : a ≠ 0 → s = decide (a < 0)) (hk : k = b.natAbs * 2 ^ j) (ht : b ≠ 0 → t = decide (b < 0)) (hb : (a + b).natAbs < 2 ^ 53) :
    ∃ r, ((Datum.sum (.number s m (-(i : Int))) (.number t k (-(j : Int)))).map double.write) = some r ∧ Fl r (a + b) := by
  have hbase : min (-(i : Int)) (-(j : Int)) = -((max i j : Nat) : Int) := by omega
  have e1 : (-(i : Int) - -((max i j : Nat) : Int)).toNat = max i j - i := by omega
  have e2 : (-(j : Int) - -((max i j : Nat) : Int)).toNat = max i j - j := by omega
  have t1 := signed_fl hm hs (max i j - i)
  have t2 := signed_fl hk ht (max i j - j)
  have f1 : i + (max i j - i) = max i j := by omega
  have f2 : j + (max i j - j) = max i j := by omega
  rw [f1] at t1
  rw [f2] at t2
  have tt : signed s m (max i j - i) + signed t k (max i j - j) = (a + b) * 2 ^ (max i j) := by rw [t1, t2, Int.add_mul]
  refine ⟨_, by unfold Datum.sum; simp only [hbase, e1, e2, tt, Option.map_some]; rfl, ?_⟩
  simp only [Format.write, natAbs_mul_pow, mul_pow_zero, mul_pow_neg]
  refine fl_write _ _ _ ?_ hb
  intro h
  simp [h]

theorem fl_add {x y : Nat} {a b : Int} (hx : Fl x a) (hy : Fl y b) (hb : (a + b).natAbs < 2 ^ 53) : ∃ r, double.add x y = some r ∧ Fl r (a + b) := by
  obtain ⟨s, m, i, hr, hm, hs, _⟩ := hx
  obtain ⟨t, k, j, hr', hk, ht, _⟩ := hy
  unfold Format.add
  rw [hr, hr']
  exact sum_fl hm hs hk ht hb

theorem fl_sub {x y : Nat} {a b : Int} (hx : Fl x a) (hy : Fl y b) (hb : (a - b).natAbs < 2 ^ 53) : ∃ r, double.sub x y = some r ∧ Fl r (a - b) := by
  obtain ⟨s, m, i, hr, hm, hs, _⟩ := hx
  obtain ⟨t, k, j, hr', hk, ht, _⟩ := hy
  unfold Format.sub
  rw [hr, hr']
  have := sum_fl (t := !t) (k := k) (j := j) (b := -b) hm hs (by rw [Int.natAbs_neg]; exact hk) (by
    intro h
    have h' : b ≠ 0 := by omega
    rw [ht h']
    by_cases hn : b < 0
    · have : ¬ (-b < 0) := by omega
      rw [decide_eq_true hn, decide_eq_false this]; rfl
    · have : (-b < 0) := by omega
      rw [decide_eq_false hn, decide_eq_true this]; rfl) (by rw [← Int.sub_eq_add_neg]; exact hb)
  simpa [Datum.opposite, Int.sub_eq_add_neg] using this

theorem fl_mul {x y : Nat} {a b : Int} (hx : Fl x a) (hy : Fl y b) (hb : (a * b).natAbs < 2 ^ 53) : ∃ r, double.mul x y = some r ∧ Fl r (a * b) := by
  obtain ⟨s, m, i, hr, hm, hs, _⟩ := hx
  obtain ⟨t, k, j, hr', hk, ht, _⟩ := hy
  unfold Format.mul
  rw [hr, hr']
  refine ⟨_, by unfold Datum.product; simp only [Option.map_some]; rfl, ?_⟩
  have e1 : m * k = (a * b).natAbs * 2 ^ (i + j) := by
    rw [hm, hk, Int.natAbs_mul, Nat.pow_add]
    ac_rfl
  have e2 : -(i : Int) + -(j : Int) = -((i + j : Nat) : Int) := by omega
  simp only [Format.write, e1, e2]
  refine fl_write _ _ _ ?_ hb
  intro h
  have ha : a ≠ 0 := fun e => h (by simp [e])
  have hb' : b ≠ 0 := fun e => h (by simp [e])
  rw [hs ha, ht hb']
  by_cases h1 : a < 0 <;> by_cases h2 : b < 0
  · have : ¬ (a * b < 0) := by have := Int.mul_pos_of_neg_of_neg h1 h2; omega
    simp [h1, h2, this]
  · have : (a * b < 0) := Int.mul_neg_of_neg_of_pos h1 (by omega)
    simp [h1, h2, this]
  · have : (a * b < 0) := Int.mul_neg_of_pos_of_neg (by omega) h2
    simp [h1, h2, this]
  · have : ¬ (a * b < 0) := by have := Int.mul_nonneg (a := a) (b := b) (by omega) (by omega); omega
    simp [h1, h2, this]

theorem fl_order {x y : Nat} {a b : Int} (hx : Fl x a) (hy : Fl y b) : double.order x y = some (compare a b) := by
  obtain ⟨s, m, i, hr, hm, hs, _⟩ := hx
  obtain ⟨t, k, j, hr', hk, ht, _⟩ := hy
  unfold Format.order
  rw [hr, hr']
  have hbase : min (-(i : Int)) (-(j : Int)) = -((max i j : Nat) : Int) := by omega
  have e1 : (-(i : Int) - -((max i j : Nat) : Int)).toNat = max i j - i := by omega
  have e2 : (-(j : Int) - -((max i j : Nat) : Int)).toNat = max i j - j := by omega
  have t1 := signed_fl hm hs (max i j - i)
  have t2 := signed_fl hk ht (max i j - j)
  have f1 : i + (max i j - i) = max i j := by omega
  have f2 : j + (max i j - j) = max i j := by omega
  rw [f1] at t1
  rw [f2] at t2
  unfold Datum.order
  simp only [hbase, e1, e2, t1, t2, Option.some.injEq]
  have hp := pow_pos_int (max i j)
  generalize (2:Int) ^ (max i j) = P at hp
  have hlt : ∀ u v : Int, u < v → u * P < v * P := fun u v h => Int.mul_lt_mul_of_pos_right h hp
  rcases Int.lt_trichotomy a b with h | h | h
  · have := hlt a b h
    rw [Int.compare_eq_lt.mpr this, Int.compare_eq_lt.mpr h]
  · subst h
    rw [Int.compare_eq_eq.mpr rfl, Int.compare_eq_eq.mpr rfl]
  · have := hlt b a h
    rw [Int.compare_eq_gt.mpr this, Int.compare_eq_gt.mpr h]

theorem fl_toInt {x : Nat} {a : Int} (hx : Fl x a) : (double.read x).toInt .zero = some a := by
  obtain ⟨s, m, i, hr, hm, hs, _⟩ := hx
  rw [hr]
  unfold Datum.toInt Datum.integral
  have e1 : (-(i : Int)).toNat = 0 := by omega
  have e2 : (- -(i : Int)).toNat = i := by omega
  simp only [e1, e2, Nat.shiftLeft_eq, Nat.pow_zero, Nat.mul_one]
  have hc : Toward.zero.cut s m i = a.natAbs := by
    unfold Toward.cut
    simp only [Nat.shiftLeft_eq, Nat.one_mul, Bool.toNat_false, Nat.add_zero]
    by_cases h0 : a.natAbs = 0
    · rw [hm, h0]; simp
    · have : min i (m.log2 + 2) = i := by rw [hm, log2_shift _ _ (by omega)]; omega
      rw [this, hm, Nat.mul_div_cancel _ (Nat.two_pow_pos i)]
  rw [hc]
  have := signed_fl (q := 0) (m := a.natAbs) (by simp) hs 0
  simpa using this

theorem fl_ofInt (n : Int) (hb : n.natAbs < 2 ^ 53) : Fl (double.write (.number (n < 0) n.natAbs 0)) n := by
  have := fl_write (decide (n < 0)) n 0 (fun _ => rfl) hb
  simpa [Format.write] using this

theorem nearest_top (s : Bool) (q : Nat) : double.nearest s (2 ^ 53 * 2 ^ q) (-(q : Int)) = double.word s (1076 * 2 ^ 52) := by
  have hne : 2 ^ 53 * 2 ^ q ≠ 0 := Nat.ne_of_gt (Nat.mul_pos (by decide) (Nat.two_pow_pos q))
  have hlp : double.leastPlace = -1074 := by decide
  have hfb : (double.fractionBits : Int) = 52 := rfl
  have hbi : double.binade = 2 ^ 52 := rfl
  have hin : double.infRung = 2047 * 2 ^ 52 := rfl
  have hl : (2 ^ 53 * 2 ^ q).log2 = 53 + q := by rw [log2_shift _ _ (by decide), show (2 ^ 53 : Nat).log2 = 53 by decide +kernel]
  unfold Format.nearest
  rw [if_neg hne]
  simp only [hl, hlp, hfb, hbi, hin]
  have hlast : max (-(q : Int) + ((53 + q : Nat) : Int) - 52) (-1074) = 1 := by omega
  rw [hlast]
  have e1 : (-(q : Int) - 1).toNat = 0 := by omega
  have e2 : ((1 : Int) - -(q : Int)).toNat = q + 1 := by omega
  have e3 : ((1 : Int) - -1074).toNat = 1075 := by decide
  rw [e1, e2, e3]
  have e4 : (2 ^ 53 * 2 ^ q) <<< 0 = 2 ^ 52 * 2 ^ (q + 1) := by
    rw [Nat.shiftLeft_zero, Nat.pow_succ 2 q]
    have : (2 : Nat) ^ 53 = 2 ^ 52 * 2 := by decide
    rw [this]; ac_rfl
  rw [e4, cut_exact s (2 ^ 52) (q + 1) (by decide)]
  congr 1

/-- A difference that may be 2^53 itself: as an integer. -/
theorem fl_sub_to {x y : Nat} {a b : Int} (hx : Fl x a) (hy : Fl y b) (hb : (a - b).natAbs ≤ 2 ^ 53) : ∃ r, double.sub x y = some r ∧ (double.read r).toInt .zero = some (a - b) := by
  by_cases h : (a - b).natAbs < 2 ^ 53
  · obtain ⟨r, hr, fr⟩ := fl_sub hx hy h
    exact ⟨r, hr, fl_toInt fr⟩
  have htop : (a - b).natAbs = 2 ^ 53 := by omega
  obtain ⟨s, m, i, hr, hm, hs, _⟩ := hx
  obtain ⟨t, k, j, hr', hk, ht, _⟩ := hy
  unfold Format.sub
  rw [hr, hr']
  have hk' : k = (-b).natAbs * 2 ^ j := by rw [Int.natAbs_neg]; exact hk
  have ht' : -b ≠ 0 → (!t) = decide (-b < 0) := by
    intro h
    have h' : b ≠ 0 := by omega
    rw [ht h']
    by_cases hn : b < 0
    · have : ¬ (-b < 0) := by omega
      rw [decide_eq_true hn, decide_eq_false this]; rfl
    · have : (-b < 0) := by omega
      rw [decide_eq_false hn, decide_eq_true this]; rfl
  have hbase : min (-(i : Int)) (-(j : Int)) = -((max i j : Nat) : Int) := by omega
  have e1 : (-(i : Int) - -((max i j : Nat) : Int)).toNat = max i j - i := by omega
  have e2 : (-(j : Int) - -((max i j : Nat) : Int)).toNat = max i j - j := by omega
  have t1 := signed_fl hm hs (max i j - i)
  have t2 := signed_fl hk' ht' (max i j - j)
  have f1 : i + (max i j - i) = max i j := by omega
  have f2 : j + (max i j - j) = max i j := by omega
  rw [f1] at t1
  rw [f2] at t2
  have tt : signed s m (max i j - i) + signed (!t) k (max i j - j) = (a - b) * 2 ^ (max i j) := by rw [t1, t2, ← Int.add_mul, Int.sub_eq_add_neg]
  have hne : a - b ≠ 0 := by intro e; rw [e] at htop; revert htop; decide
  refine ⟨_, by unfold Datum.opposite Datum.sum; simp only [hbase, e1, e2, tt, Option.map_some]; rfl, ?_⟩
  simp only [Format.write, natAbs_mul_pow, mul_pow_zero, mul_pow_neg, htop, nearest_top, if_neg hne]
  by_cases hn : a - b < 0
  · have : a - b = -(2 ^ 53 : Int) := by have := htop; omega
    rw [decide_eq_true hn, this]
    decide +kernel
  · have : a - b = (2 ^ 53 : Int) := by have := htop; omega
    rw [decide_eq_false hn, this]
    decide +kernel

theorem fl_inj {x : Nat} {a b : Int} (h : Fl x a) (h' : Fl x b) : a = b := by
  have := (fl_toInt h).symm.trans (fl_toInt h')
  simpa using this

theorem fl_zero : Fl 0 0 := zero_fl _ false 1074 (by decide +kernel)
theorem fl_one : Fl 0x3FF0000000000000 1 := ⟨false, 2 ^ 52, 52, rfl, by decide, by decide, by decide⟩
theorem fl_negone : Fl 0xBFF0000000000000 (-1) := ⟨true, 2 ^ 52, 52, rfl, by decide, by decide, by decide⟩
theorem fl_negzero : Fl 0x8000000000000000 0 := zero_fl _ true 1074 (by decide +kernel)
theorem fl_lt {x : Nat} {a : Int} (h : Fl x a) : a.natAbs < 2 ^ 53 := by obtain ⟨_, _, _, _, _, _, h⟩ := h; exact h
end Go.Proofs.YtdhhjdacidhmjaaGreat
