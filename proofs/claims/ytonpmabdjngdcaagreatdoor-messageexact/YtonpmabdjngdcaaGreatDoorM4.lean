/- Own texts, joined: EyeG, EyeG2, EyeN, TurnMath, JM, MsgM, MsgN, MsgO. -/
import Derived.Test.YtonpmabdjngdcaaGreatDoorM3
import Derived.Deep.RegionHeld3
import Derived.Test.YtonpmabdjngdcaaGreatDoorM2

/- The document's Reader over bytes that lie anywhere: Left, Raw, last. -/
namespace Go.Proofs.YtonpmabdjngdcaaGreatDoor
open Go.RowKit
set_option maxRecDepth 100000

def gCell (hb ho hc n at' bad : Nat) (i : Nat) : Value := if i = 0 then .slice (some ⟨hb, ho, none⟩) n hc else if i = 1 then .int .i64 (at' : Nat) else .int .i64 (bad : Nat)
structure IsG (w : World) (eb hb ho hc n : Nat) (z : Nat → Nat) (at' bad : Nat) : Prop where
  rd : w.rowIs eb 144 3 (gCell hb ho hc n at' bad)
  cel : ∀ j, j < n → w.cell? ⟨hb, ho + j, none⟩ = some (.int .u8 (z j : Nat))
  ne : 0 < n → hb ≠ eb
  byte : ∀ j, z j < 256
  le : at' ≤ n
  room : n ≤ 281474976710656
  capn : n ≤ hc
  hcm : hc ≤ 9223372036854775807
theorem IsG.later {w w' : World} {eb hb ho hc n at' bad : Nat} {z : Nat → Nat} (h : IsG w eb hb ho hc n z at' bad) (h1 : w'.heap[eb]? = w.heap[eb]?) (h2 : 0 < n → w'.heap[hb]? = w.heap[hb]?) : IsG w' eb hb ho hc n z at' bad :=
  ⟨h.rd.of_block h1, fun j hj => by rw [World.cell?_of_block (w := w) (h2 (by omega))]; exact h.cel j hj, h.ne, h.byte, h.le, h.room, h.capn, h.hcm⟩
theorem IsG.hlt {w : World} {eb hb ho hc n at' bad : Nat} {z : Nat → Nat} (h : IsG w eb hb ho hc n z at' bad) (hp : 0 < n) : hb < w.heap.size := World.block_lt_of_cell? _ _ (h.cel 0 hp)
theorem IsG.since {w w' : World} {eb hb ho hc n at' bad : Nat} {z : Nat → Nat} (h : IsG w eb hb ho hc n z at' bad) (hs : w.Since w.heap.size w') : IsG w' eb hb ho hc n z at' bad :=
  h.later (hs.block eb h.rd.lt) (fun hp => hs.block hb (h.hlt hp))
theorem IsG.setAt {w : World} {eb hb ho hc n at' bad : Nat} {z : Nat → Nat} (h : IsG w eb hb ho hc n z at' bad) (q : Nat) (hq : q ≤ n) : IsG (w.setCell ⟨eb, 1, none⟩ (.int .i64 q)) eb hb ho hc n z q bad :=
  ⟨(h.rd.set 1 _).congr (fun i hi => by
      match i, hi with
      | 0, _ => rfl
      | 1, _ => rfl
      | 2, _ => rfl), fun j hj => by rw [World.cell?_of_block (w := w) (Below.heap_setCell _ _ _ _ (by show hb ≠ eb; exact h.ne (by omega)))]; exact h.cel j hj, h.ne, h.byte, hq, h.room, h.capn, h.hcm⟩
theorem IsG.setBad {w : World} {eb hb ho hc n at' bad : Nat} {z : Nat → Nat} (h : IsG w eb hb ho hc n z at' bad) (q : Nat) : IsG (w.setCell ⟨eb, 2, none⟩ (.int .i64 q)) eb hb ho hc n z at' q :=
  ⟨(h.rd.set 2 _).congr (fun i hi => by
      match i, hi with
      | 0, _ => rfl
      | 1, _ => rfl
      | 2, _ => rfl), fun j hj => by rw [World.cell?_of_block (w := w) (Below.heap_setCell _ _ _ _ (by show hb ≠ eb; exact h.ne (by omega)))]; exact h.cel j hj, h.ne, h.byte, h.le, h.room, h.capn, h.hcm⟩
theorem IsG.c0 {w : World} {eb hb ho hc n at' bad : Nat} {z : Nat → Nat} (h : IsG w eb hb ho hc n z at' bad) : w.cell? ⟨eb, 0, none⟩ = some (.slice (some ⟨hb, ho, none⟩) n hc) := h.rd.cell (by decide)
theorem IsG.c1 {w : World} {eb hb ho hc n at' bad : Nat} {z : Nat → Nat} (h : IsG w eb hb ho hc n z at' bad) : w.cell? ⟨eb, 1, none⟩ = some (.int .i64 at') := h.rd.cell (by decide)
theorem IsG.c2 {w : World} {eb hb ho hc n at' bad : Nat} {z : Nat → Nat} (h : IsG w eb hb ho hc n z at' bad) : w.cell? ⟨eb, 2, none⟩ = some (.int .i64 bad) := h.rd.cell (by decide)

theorem gLeft (eb hb ho hc n at' bad : Nat) (z : Nat → Nat) (w : World) (h : IsG w eb hb ho hc n z at' bad) : Calls Tryz.prog 168 #[.pointer (some ⟨eb, 0, none⟩)] w fun e w' => e = .returned (.int .i64 ((n - at' : Nat) : Int)) ∧ ∃ m, w' = w.drewN m := by
  have c1 := h.c1
  have c0 := h.c0
  have hle := h.le
  have hroom := h.room
  go_enter Tryz.func168, Tryz.ntmps168
  go_wp2_with fail
  go_quiet (fail)
  go_wp2
  go_ret
  exact ⟨ret_int (by omega), nq, rfl⟩
theorem isG_eq {w : World} {rb hb ho hc n a b c d : Nat} {z : Nat → Nat} (h : IsG w rb hb ho hc n z a c) (e : a = b) (f : c = d) : IsG w rb hb ho hc n z b d := by subst e; subst f; exact h
theorem g_place {w W : World} {rb hb ho hc n at' bad : Nat} {z : Nat → Nat} (h : IsG w rb hb ho hc n z at' bad) (hW : w.Since w.heap.size W) (o k : Nat) (hk : k ≤ n - at') (ho' : hc ≠ at' → o = ho + at') : Byt W (some ⟨hb, o, none⟩) k (fun j => z (at' + j)) := fun j hj => by
  have := (h.since hW).cel (at' + j) (by omega)
  have hcn := h.capn
  exact ⟨hb, o, rfl, by rw [ho' (by omega), Nat.add_assoc]; exact this⟩

set_option maxHeartbeats 1600000 in
set_option maxRecDepth 100000 in
theorem gRaw (eb hb ho hc n at' bad : Nat) (k : Int) (z : Nat → Nat) (w : World) (h : IsG w eb hb ho hc n z at' bad) (hm : k ≤ 9223372036854775807) :
    Calls Tryz.prog 169 #[.pointer (some ⟨eb, 0, none⟩), .int .i64 k] w fun e w' => (∃ ta, e = .returned (.slice ta (rawAns n k at' bad).1 (rawAns n k at' bad).1) ∧ Txt w.heap.size w' ta (rawAns n k at' bad).1 (fun j => z ((rawAns n k at' bad).2.1 + j))) ∧ But eb w w' ∧ IsG w' eb hb ho hc n z (rawAns n k at' bad).2.2.1 (rawAns n k at' bad).2.2.2 := by
  have c2 := h.c2
  unfold rawAns
  by_cases hbad : bad = 0
  · subst hbad
    rw [if_neg (by simp)]
    by_cases hneg : k < 0
    · rw [if_pos hneg]
      have f2 := h.rd.frozen 2
      have hI := h.setBad 14
      have hB : But eb w (w.setCell ⟨eb, 2, none⟩ (.int .i64 14)) := (But.of_since (World.Since.refl _ _)).setCell 2 _
      go_enter Tryz.func169, Tryz.ntmps169
      go_wp2_with fail
      go_ret
      exact ⟨⟨none, rfl, txt_none _ _ _ _ rfl⟩, hB, hI⟩
    · rw [if_neg hneg]
      obtain ⟨M, rfl⟩ : ∃ M : Nat, k = (M : Nat) := ⟨k.toNat, by omega⟩
      rw [Int.toNat_natCast]
      unfold rlook
      have hlf := gLeft eb hb ho hc n at' 0 z w h
      have hle := h.le
      have hroom := h.room
      by_cases hsh : n - at' < M
      · rw [if_pos hsh]
        have hgt : ((n - at' : Nat) : Int) < (M : Int) := by omega
        generalize ((n - at' : Nat) : Int) = LL at *
        go_enter Tryz.func169, Tryz.ntmps169
        go_wp2_with fail
        refine hlf.mono ?_
        rintro e w1 ⟨rfl, m1, rfl⟩
        have hs1 := since_drewN' (World.Since.refl w.heap.size w) m1
        have h1 := h.since hs1
        have f2 := h1.rd.frozen 2
        have c3 := h1.c2
        have hI := h1.setBad 10
        have hB : But eb w ((w.drewN m1).setCell ⟨eb, 2, none⟩ (.int .i64 10)) := (But.of_since hs1).setCell 2 _
        generalize w.drewN m1 = w1 at *
        clear hlf
        go_wp2_with fail
        go_ret
        exact ⟨⟨none, rfl, txt_none _ _ _ _ rfl⟩, hB, hI⟩
      · rw [if_neg hsh]
        have hgt : ¬ (((n - at' : Nat) : Int) < (M : Int)) := by omega
        obtain ⟨E, hE, hsum⟩ : ∃ E : Nat, E - at' = M ∧ (at' : Int) + (M : Int) = (E : Int) := ⟨at' + M, by omega, by omega⟩
        have hxa : (E : Int) ≤ (n : Int) := by omega
        have hxb : (at' : Int) ≤ (E : Int) := by omega
        have hwE : IntKind.i64.wrap (E : Int) = (E : Int) := by rw [IntKind.wrap_i64]; omega
        have hwS : IntKind.i64.wrap ((at' : Int) + (M : Int)) = (E : Int) := by rw [hsum]; exact hwE
        have hxc : at' ≤ E := by omega
        have hxd : E ≤ n := by omega
        have hcn := h.capn
        have hxe : (E : Int) ≤ (hc : Int) := by omega
        have hxf : E ≤ hc := by omega
        have hcp : ∀ W, w.Since w.heap.size W → Calls Tryz.prog 15 #[.slice (if hc = at' then some ⟨hb, ho, none⟩ else some ⟨hb, ho + at', none⟩) (E - at') (hc - at')] W fun e w' => e = .returned (.slice (some ⟨W.heap.size, 0, none⟩) M M) ∧ W.Since W.heap.size w' ∧ w'.rowIs W.heap.size 5 M (fun j => .int .u8 (z (at' + j) : Nat)) := fun W hs => by
          rw [hE]
          by_cases hna : hc = at'
          · rw [if_pos hna]
            exact (copy_any _ M (hc - at') (fun j => z (at' + j)) W (by omega) (g_place h hs ho M (by omega) (fun hh => absurd hna hh))).mono fun e w' ⟨h1, h2, _, h4⟩ => ⟨h1, h2, h4⟩
          · rw [if_neg hna]
            exact (copy_any _ M (hc - at') (fun j => z (at' + j)) W (by omega) (g_place h hs (ho + at') M (by omega) (fun _ => rfl))).mono fun e w' ⟨h1, h2, _, h4⟩ => ⟨h1, h2, h4⟩
        have HL := hide hcp
        clear hcp
        go_enter Tryz.func169, Tryz.ntmps169
        generalize hLL : ((n - at' : Nat) : Int) = LL at *
        go_wp2_with fail
        refine hlf.mono ?_
        rintro e w1 ⟨rfl, m1, rfl⟩
        have hs1 := since_drewN' (World.Since.refl w.heap.size w) m1
        have h1 := h.since hs1
        have hlt := h1.rd.lt
        generalize w.drewN m1 = w1 at *
        clear hlf c2 hLL hE
        have d0 := h1.c0
        have d1 := h1.c1
        have hwz : w.heap.size ≤ w1.heap.size := hs1.size
        go_upto_region 9 with fail
        go_cut [5] from 26 to 51 (fun s5 wx => ∃ g, s5 = .slice (some ⟨g, 0, none⟩) M M ∧ w.heap.size ≤ g ∧ w1.Since w1.heap.size wx ∧ wx.rowIs g 5 M (fun j => .int .u8 (z (at' + j) : Nat)))
        case first =>
          by_cases hna : hc = at'
          · subst hna
            obtain rfl : n = hc := by have := h.capn; omega
            obtain rfl : n = E := by omega
            obtain rfl : M = 0 := by omega
            rw [if_pos rfl, Nat.sub_self] at HL
            go_region_held3 (fun W => w1.Since w1.heap.size W ∧ W.cell? ⟨eb, 0, none⟩ = some (.slice (some ⟨hb, ho, none⟩) n n) ∧ W.cell? ⟨eb, 1, none⟩ = some (.int .i64 n))
              ((first | exact ⟨(World.Since.refl _ _).drew, d0, d1⟩ | exact ⟨hs2, (h1.since hs2).c0, (h1.since hs2).c1⟩))
              ((first | (go_at_call 15; refine ((unhide HL) _ (hs1.trans (since_mono (B := w1.heap.size) (World.Since.refl _ _).drew (by omega)))).mono ?_; rintro e w2 ⟨rfl, hs2', hr2⟩; have hs2 : w1.Since w1.heap.size w2 := (World.Since.refl _ _).drew.trans hs2')))
            all_goals
              go_wp2_with fail
              go_meet
              case rel => go_light; exact ⟨_, rfl, hwz, hs2, hr2⟩
          · rw [if_neg hna] at HL
            go_region_held3 (fun W => w1.Since w1.heap.size W ∧ W.cell? ⟨eb, 0, none⟩ = some (.slice (some ⟨hb, ho, none⟩) n hc) ∧ W.cell? ⟨eb, 1, none⟩ = some (.int .i64 at'))
              ((first | exact ⟨(World.Since.refl _ _).drew, d0, d1⟩ | exact ⟨hs2, (h1.since hs2).c0, (h1.since hs2).c1⟩))
              ((first | (go_at_call 15; refine ((unhide HL) _ (hs1.trans (since_mono (B := w1.heap.size) (World.Since.refl _ _).drew (by omega)))).mono ?_; rintro e w2 ⟨rfl, hs2', hr2⟩; have hs2 : w1.Since w1.heap.size w2 := (World.Since.refl _ _).drew.trans hs2')))
            all_goals
              go_wp2_with fail
              go_meet
              case rel => go_light; exact ⟨_, rfl, hwz, hs2, hr2⟩
        case rest =>
          obtain ⟨g, rfl, hg, hs2, hr2⟩ := hcut
          have h2 := h1.since hs2
          have t1 := h2.c1
          have tf := h2.rd.frozen 1
          have hI := h2.setAt (at' + M) (by omega)
          have hsw := hs1.trans (since_mono hs2 hwz)
          have hB : But eb w (wc.setCell ⟨eb, 1, none⟩ (.int .i64 ((at' + M : Nat) : Int))) := (But.of_since hsw).setCell 1 _
          have hge : g ≠ eb := fun e => by
            subst e
            have := hr2.lt
            have hh := h.rd.lt
            omega
          have hT : Txt w.heap.size (wc.setCell ⟨eb, 1, none⟩ (.int .i64 ((at' + M : Nat) : Int))) (some ⟨g, 0, none⟩) M (fun j => z (at' + j)) := Or.inr ⟨g, rfl, hg, hr2.setOther (by show g ≠ eb; exact hge) _⟩
          have ec : ((at' + M : Nat) : Int) = (at' : Int) + (M : Int) := by omega
          rw [ec, hsum] at hI hB hT
          clear HL d0 d1 hlt
          go_wp2_with fail
          go_ret
          exact ⟨⟨_, rfl, hT⟩, hB, hI⟩
  · rw [if_pos hbad]
    have hq : ((bad : Int) != 0) = true := by simp; omega
    go_enter Tryz.func169, Tryz.ntmps169
    go_wp2_with fail
    go_ret
    exact ⟨⟨none, rfl, txt_none _ _ _ _ rfl⟩, But.of_since (World.Since.refl _ _), h⟩
set_option maxHeartbeats 1600000 in
theorem gLast (eb hb ho hc n at' bad : Nat) (z : Nat → Nat) (w : World) (h : IsG w eb hb ho hc n z at' bad) (R : Option Nat) (hR : lastAt (fun j => z (at' + j)) (n - at') 10 0 = R) :
    Calls Tryz.prog 167 #[.pointer (some ⟨eb, 0, none⟩)] w fun e w' => e = .returned (.int .i64 (match R with | none => -1 | some i => ((at' + i : Nat) : Int))) ∧ w.Since w.heap.size w' := by
  have hle := h.le
  have hroom := h.room
  go_enter Tryz.func167, Tryz.ntmps167
  go_wp2_with fail
  go_loopg [3] 10 (fun q s3 wx => ∃ i : Nat, i ≤ 10 ∧ q = 10 - i ∧ s3 = .int .i64 i ∧ w.Since w.heap.size wx ∧ lastAt (fun j => z (at' + j)) (n - at') (10 - i) i = R)
  case atStart => exact ⟨0, by omega, rfl, rfl, World.Since.refl _ _, hR⟩
  case round =>
    obtain ⟨i, hi, rfl, rfl, hs, hv⟩ := hrel
    have h1 := h.since hs
    have c0 := h1.c0
    have c1 := h1.c1
    by_cases h10 : i = 10
    · subst h10
      obtain rfl : none = R := hv
      go_wp2_with fail
      go_quiet (fail)
      go_wp2_with fail
      go_ret
      exact ⟨rfl, since_drewN' hs _⟩
    · obtain ⟨f, hf⟩ : ∃ f, 10 - i = f + 1 := ⟨9 - i, by omega⟩
      rw [hf] at hv
      unfold lastAt at hv
      have hi10 : (i : Int) < 10 := by omega
      obtain ⟨E, hE, hsum⟩ : ∃ E : Nat, at' + i = E ∧ (at' : Int) + (i : Int) = (E : Int) := ⟨at' + i, rfl, by omega⟩
      have hwE : IntKind.i64.wrap (E : Int) = (E : Int) := by rw [IntKind.wrap_i64]; omega
      have hwS : IntKind.i64.wrap ((at' : Int) + (i : Int)) = (E : Int) := by rw [hsum]; exact hwE
      have hf' : f = 9 - i := by omega
      by_cases hin : i < n - at'
      · rw [if_pos hin] at hv
        have hlt : (E : Int) < (n : Int) := by omega
        have cz : wr.cell? ⟨hb, ho + E, none⟩ = some (.int .u8 (z E : Nat)) := h1.cel E (by omega)
        have hv1 : (if z E < 128 then some i else lastAt (fun j => z (at' + j)) (n - at') f (i + 1)) = R := by rw [← hE]; exact hv
        clear hv hf
        go_wp2_with fail
        go_quiet (fail)
        have hs2 := since_drewN' hs nq
        have h2 := h.since hs2
        have c0' := h2.c0
        have c1' := h2.c1
        have cz' : (wr.drewN nq).cell? ⟨hb, ho + E, none⟩ = some (.int .u8 (z E : Nat)) := h2.cel E (by omega)
        generalize wr.drewN nq = wq at *
        clear c0 c1 cz h1
        by_cases hz : z E < 128
        · rw [if_pos hz] at hv1
          subst hv1
          have hz' : (z E : Int) < 128 := by omega
          go_wp2_with fail
          go_quiet (fail)
          have hs3 := since_drewN' hs2 nq
          have c1'' := (h.since hs3).c1
          generalize wq.drewN nq = wq2 at *
          go_wp2_with fail
          go_ret
          exact ⟨ret_int (by first | (simp; omega) | simp), hs3⟩
        · rw [if_neg hz] at hv1
          have hz' : ¬ ((z E : Int) < 128) := by omega
          go_wp2_with fail
          go_quiet (fail)
          have hs3 := since_drewN' hs2 nq
          generalize wq.drewN nq = wq2 at *
          go_wp2_with fail
          go_roundg (10 - (i + 1))
          case measure => go_light; omega
          case rel => go_light; exact ⟨i + 1, by omega, rfl, by simp, hs3, by rw [show 10 - (i + 1) = f by omega]; exact hv1⟩
      · rw [if_neg hin] at hv
        subst hv
        have hlt : ¬ ((E : Int) < (n : Int)) := by omega
        clear hf
        go_wp2_with fail
        go_quiet (fail)
        have hs2 := since_drewN' hs nq
        generalize wr.drewN nq = wq at *
        go_wp2_with fail
        go_ret
        exact ⟨rfl, hs2⟩
end Go.Proofs.YtonpmabdjngdcaaGreatDoor

/- The document's Reader over bytes that lie anywhere: Var, Text. -/
namespace Go.Proofs.YtonpmabdjngdcaaGreatDoor
open Go.RowKit
set_option maxRecDepth 100000

set_option maxHeartbeats 3200000 in
set_option maxRecDepth 100000 in
theorem gVar_some (eb hb ho hc n at' most k : Nat) (z : Nat → Nat) (w : World) (h : IsG w eb hb ho hc n z at' 0) (hR : lastAt (fun j => z (at' + j)) (n - at') 10 0 = some k) (hn : n ≤ 140737488351232) (A a2 b2 : Nat)
    (hV : (if (k = 9 ∧ 1 < z (at' + k)) ∨ (z (at' + k) = 0 ∧ 0 < k) then ((0, at', 11) : Nat × Nat × Nat) else if most < vs (fun j => z (at' + j)) (k + 1) then (0, at', 12) else (vs (fun j => z (at' + j)) (k + 1), at' + (k + 1), 0)) = (A, a2, b2)) :
    Calls Tryz.prog 144 #[.pointer (some ⟨eb, 0, none⟩), .int .u64 most] w fun e w' => e = .returned (.int .u64 A) ∧ But eb w w' ∧ IsG w' eb hb ho hc n z a2 b2 := by
  have hla := gLast eb hb ho hc n at' 0 z w h _ hR
  obtain ⟨_, hk10, hkm, hkz, hkj⟩ := last_some _ _ _ _ _ hR
  replace hk10 : k < 10 := by omega
  have hle := h.le
  have hz := h.byte
  have c2 := h.c2
  obtain ⟨E, hE⟩ : ∃ E, at' + k = E := ⟨_, rfl⟩
  replace hla : Calls Tryz.prog 167 #[.pointer (some ⟨eb, 0, none⟩)] w fun e w' => e = .returned (.int .i64 (E : Nat)) ∧ w.Since w.heap.size w' := by rw [← hE]; exact hla
  go_enter Tryz.func144, Tryz.ntmps144
  go_wp2_with fail
  refine hla.mono ?_
  rintro e w1 ⟨rfl, hs1⟩
  have h1 := h.since hs1
  have d0 := h1.c0
  have d1 := h1.c1
  clear hla c2
  go_wp2_with fail
  go_loopg [6, 7] (k + 1) (fun q s6 s7 wx => ∃ (d : Nat) (Z : Int), d ≤ k + 1 ∧ d = q ∧ s6 = .int .u64 (vs (fun j => z (at' + (d + j))) (k + 1 - d) % 18446744073709551616 : Nat) ∧ s7 = .int .i64 Z ∧ Z = (at' : Int) + d - 1 ∧ wx = w1)
  case atStart => exact ⟨k + 1, (E : Int), Nat.le_refl _, rfl, by rw [Nat.sub_self]; rfl, rfl, by omega, rfl⟩
  case round =>
    obtain ⟨d, Z, hd, rfl, rfl, rfl, hZ, hwx⟩ := hrel
    subst hwx
    rcases Nat.eq_zero_or_pos d with hd0 | hdp
    · subst hd0
      have hge : ¬ ((at' : Int) ≤ Z) := by omega
      have e0 : vs (fun j => z (at' + (0 + j))) (k + 1 - 0) = vs (fun j => z (at' + j)) (k + 1) := vs_congr (k + 1) (fun j _ => by show z (at' + (0 + j)) = z (at' + j); rw [Nat.zero_add])
      rw [e0]
      clear hR e0
      have hlt64 : vs (fun j => z (at' + j)) (k + 1) % 18446744073709551616 < 18446744073709551616 := Nat.mod_lt _ (by decide)
      obtain ⟨G, hG⟩ : ∃ G, E + 1 = G := ⟨_, rfl⟩
      have hcn := h.capn
      have hna : ¬ hc = at' := by omega
      have hGc : (G : Int) ≤ (hc : Int) := by omega
      have hGc2 : G ≤ hc := by omega
      have hGa : (at' : Int) ≤ (G : Int) := by omega
      have hGn : (G : Int) ≤ (n : Int) := by omega
      have hGs : (E : Int) + 1 = (G : Int) := by omega
      have hwG : IntKind.i64.wrap (G : Int) = (G : Int) := by rw [IntKind.wrap_i64]; omega
      have hwS : IntKind.i64.wrap ((E : Int) + 1) = (G : Int) := by rw [hGs]; exact hwG
      have hG1 : G - at' = k + 1 := by omega
      have hbz : ∀ W, wr.Since wr.heap.size W → Byt W (some ⟨hb, ho + at', none⟩) (k + 1) (fun j => z (at' + j)) := fun W hW => g_place h1 hW (ho + at') (k + 1) (by omega) (fun _ => rfl)
      obtain ⟨BB, hBB, hEq⟩ : ∃ BB : Bool, (BB = true → ¬ ((k = 9 ∧ 1 < z (at' + k)) ∨ (z (at' + k) = 0 ∧ 0 < k)) ∧ vs (fun j => z (at' + j)) (k + 1) % 18446744073709551616 = vs (fun j => z (at' + j)) (k + 1)) ∧ (∀ W aa cc, wr.Since wr.heap.size W → Byt W aa (vl 9 (vs (fun j => z (at' + j)) (k + 1) % 18446744073709551616)).length (fun j => (vl 9 (vs (fun j => z (at' + j)) (k + 1) % 18446744073709551616)).getD j 0) → Calls Tryz.prog 13 #[.slice aa (vl 9 (vs (fun j => z (at' + j)) (k + 1) % 18446744073709551616)).length cc, .slice (some ⟨hb, ho + at', none⟩) (G - at') (hc - at')] W fun e w' => e = .returned (.bool BB) ∧ wr.Since wr.heap.size w') ∧ (BB = false → ((k = 9 ∧ 1 < z (at' + k)) ∨ (z (at' + k) = 0 ∧ 0 < k))) := by
        by_cases hcond : (k = 9 ∧ 1 < z (at' + k)) ∨ (z (at' + k) = 0 ∧ 0 < k)
        · refine ⟨false, fun e => (by cases e), fun W aa cc hW hy => ?_, fun _ => hcond⟩
          rw [hG1]
          have hne := vl_ne (fun j => z (at' + j)) k hk10 hcond hkz
          have hlen := vl_len 9 (vs (fun j => z (at' + j)) (k + 1) % 18446744073709551616)
          exact (eq_diff aa _ _ (k + 1) cc (hc - at') _ _ W hy (hbz W hW) (by omega) (by omega) (fun hh => hne ⟨hh.1, fun j hj => hh.2 j (by omega)⟩)).mono fun e w' ⟨he, m, hm⟩ => ⟨he, by rw [hm]; exact since_drewN' hW m⟩
        · obtain ⟨g1, g2⟩ := vl_eq (fun j => z (at' + j)) (fun j => hz _) k hk10 hcond hkz (fun j hj => hkj j (Nat.zero_le _) hj)
          refine ⟨true, fun _ => ⟨hcond, g1⟩, fun W aa cc hW hy => ?_, fun e => (by cases e)⟩
          rw [hG1]
          rw [g1, g2] at hy ⊢
          simp only [List.length_map, List.length_range] at hy ⊢
          have hy' : Byt W aa (k + 1) (fun j => z (at' + j)) := fun j hj => by
            obtain ⟨b, off, ea, hc⟩ := hy j hj
            have hg := getD_range_map (fun j => z (at' + j)) (k + 1) j hj
            simp only [hg] at hc
            exact ⟨b, off, ea, hc⟩
          exact (eq_same aa _ (k + 1) cc (hc - at') _ W hy' (hbz W hW) (by omega)).mono fun e w' ⟨he, m, hm⟩ => ⟨he, by rw [hm]; exact since_drewN' hW m⟩
      obtain ⟨hEq, hBF⟩ := hEq
      have hVar : ∀ W, wr.Since wr.heap.size W → Calls Tryz.prog 111 #[.int .u64 (vs (fun j => z (at' + j)) (k + 1) % 18446744073709551616 : Nat)] W fun e w' => ∃ v, e = .returned v ∧ wr.Since wr.heap.size w' ∧ ∃ aa cc, v = .slice aa (vl 9 (vs (fun j => z (at' + j)) (k + 1) % 18446744073709551616)).length cc ∧ Byt w' aa (vl 9 (vs (fun j => z (at' + j)) (k + 1) % 18446744073709551616)).length (fun j => (vl 9 (vs (fun j => z (at' + j)) (k + 1) % 18446744073709551616)).getD j 0) := fun W hW =>
        (refvar 9 _ W (Nat.lt_of_lt_of_le hlt64 (by decide)) hlt64 (by decide)).mono fun e w' ⟨v, he, hs, ho⟩ => by
          obtain ⟨a, c, rfl, hy, _⟩ := own_byt ho
          exact ⟨_, he, hW.trans (since_mono hs hW.size), a, c, rfl, hy⟩
      have hBT : BB = true → vs (fun j => z (at' + j)) (k + 1) % 18446744073709551616 = vs (fun j => z (at' + j)) (k + 1) := fun e => (hBB e).2
      have hV2 : (if BB = true then (if most < vs (fun j => z (at' + j)) (k + 1) % 18446744073709551616 then ((0, at', 12) : Nat × Nat × Nat) else (vs (fun j => z (at' + j)) (k + 1) % 18446744073709551616, at' + (k + 1), 0)) else (0, at', 11)) = (A, a2, b2) := by
        rw [← hV]
        cases BB with
        | true => rw [if_pos rfl, if_neg (hBB rfl).1, hBT rfl]
        | false => rw [if_neg (by decide), if_pos (hBF rfl)]
      have hG2 : at' + (k + 1) = G := by omega
      clear hV hBB hBF hBT hkj hkz hbz hG1
      generalize vs (fun j => z (at' + j)) (k + 1) % 18446744073709551616 = N at *
      have hcell : ∀ W, wr.Since wr.heap.size W → W.cell? ⟨eb, 0, none⟩ = some (.slice (some ⟨hb, ho, none⟩) n hc) ∧ W.cell? ⟨eb, 1, none⟩ = some (.int .i64 at') := fun W hW => ⟨(h1.since hW).c0, (h1.since hW).c1⟩
      have HE := hide hEq
      have HV := hide hVar
      clear hEq hVar
      have hZ' : Z < (at' : Int) := by omega
      go_upto_region 14 with fail
      go_region_held3 (fun W => wr.Since wr.heap.size W ∧ W.cell? ⟨eb, 0, none⟩ = some (.slice (some ⟨hb, ho, none⟩) n hc) ∧ W.cell? ⟨eb, 1, none⟩ = some (.int .i64 at'))
        ((first | exact ⟨by assumption, hcell _ (by assumption)⟩ | exact ⟨(World.Since.refl _ _).drew, hcell _ (World.Since.refl _ _).drew⟩))
        ((first
          | (go_at_call 111; refine ((unhide HV) _ ?_).mono ?_; (go_split_ands; assumption); rintro e w3 ⟨_, rfl, hs3, aa, cc, rfl, hy3⟩)
          | (go_at_call 13; refine ((unhide HE) _ _ _ ?_ hy3).mono ?_; (go_split_ands; assumption); rintro e w4 ⟨rfl, hs4⟩)))
      all_goals
        have h4 := h1.since hs4
        have hsw : w.Since w.heap.size w4 := hs1.trans (since_mono hs4 hs1.size)
        have f1 := h4.rd.frozen 1
        have f2 := h4.rd.frozen 2
        have g1 := h4.c1
        have g2 := h4.c2
        clear HE HV hcell hy3 hs3
        cases BB with
        | false =>
          rw [if_neg (by decide)] at hV2
          cases hV2
          have hI := h4.setBad 11
          have hB : But eb w (w4.setCell ⟨eb, 2, none⟩ (.int .i64 11)) := (But.of_since hsw).setCell 2 _
          go_wp2_with fail
          go_ret
          exact ⟨rfl, hB, hI⟩
        | true =>
          rw [if_pos rfl] at hV2
          by_cases hmo : most < N
          · rw [if_pos hmo] at hV2
            cases hV2
            have hmo' : (most : Int) < (N : Int) := by omega
            have hI := h4.setBad 12
            have hB : But eb w (w4.setCell ⟨eb, 2, none⟩ (.int .i64 12)) := (But.of_since hsw).setCell 2 _
            go_wp2_with fail
            go_ret
            exact ⟨rfl, hB, hI⟩
          · rw [if_neg hmo] at hV2
            have hmo' : ¬ ((most : Int) < (N : Int)) := by omega
            cases hV2
            have hI := h4.setAt (at' + (k + 1)) (by omega)
            have hB : But eb w (w4.setCell ⟨eb, 1, none⟩ (.int .i64 ((at' + (k + 1) : Nat) : Int))) := (But.of_since hsw).setCell 1 _
            have eG : ((at' + (k + 1) : Nat) : Int) = (G : Int) := by omega
            rw [eG] at hI hB
            clear eG
            go_wp2_with fail
            go_ret
            first | exact ⟨rfl, hB, hI⟩ | exact ⟨rfl, hB, isG_eq hI hG2 rfl⟩ | exact ⟨rfl, hB, isG_eq hI hG2.symm rfl⟩
    · obtain ⟨d', rfl⟩ : ∃ d', d = d' + 1 := ⟨d - 1, by omega⟩
      obtain ⟨P, hP, rfl⟩ : ∃ P : Nat, at' + d' = P ∧ Z = (P : Int) := ⟨at' + d', rfl, by omega⟩
      have hge : (at' : Int) ≤ (P : Int) := by omega
      clear hZ
      have hPn : (P : Int) < (n : Int) := by omega
      have cz : wr.cell? ⟨hb, ho + P, none⟩ = some (.int .u8 (z P : Nat)) := h1.cel P (by omega)
      have hc := hz P
      have hho := horner (fun j => z (at' + j)) d' (k + 1 - (d' + 1))
      rw [show k + 1 - (d' + 1) + 1 = k + 1 - d' by omega] at hho
      replace hho : vs (fun j => z (at' + (d' + j))) (k + 1 - d') % 18446744073709551616 = (vs (fun j => z (at' + (d' + 1 + j))) (k + 1 - (d' + 1)) % 18446744073709551616 * 128 + z P % 128) % 18446744073709551616 := by rw [← hP]; exact hho
      have hX : vs (fun j => z (at' + (d' + 1 + j))) (k + 1 - (d' + 1)) % 18446744073709551616 < 18446744073709551616 := Nat.mod_lt _ (by decide)
      generalize hN1 : vs (fun j => z (at' + (d' + j))) (k + 1 - d') % 18446744073709551616 = N1 at *
      generalize vs (fun j => z (at' + (d' + 1 + j))) (k + 1 - (d' + 1)) % 18446744073709551616 = N0 at *
      have hw : IntKind.u64.wrap (IntKind.u64.wrap ((N0 : Int) * 128) + (z P : Int) % 128) = (N1 : Int) := by
        rw [IntKind.wrap_u64, IntKind.wrap_u64]; omega
      clear hR hV hkj hho
      go_wp2_with fail
      go_roundg d'
      case measure => go_light; omega
      case rel => go_light; exact ⟨d', (P : Int) - 1, by omega, rfl, by rw [hN1], rfl, by omega, rfl⟩


set_option maxHeartbeats 1600000 in
set_option maxRecDepth 100000 in
theorem gVar (eb hb ho hc n at' bad most : Nat) (z : Nat → Nat) (w : World) (h : IsG w eb hb ho hc n z at' bad) (hn : n ≤ 140737488351232) :
    Calls Tryz.prog 144 #[.pointer (some ⟨eb, 0, none⟩), .int .u64 most] w fun e w' => e = .returned (.int .u64 ((varAns z n most at' bad).1 : Nat)) ∧ But eb w w' ∧ IsG w' eb hb ho hc n z (varAns z n most at' bad).2.1 (varAns z n most at' bad).2.2 := by
  unfold varAns
  by_cases hbad : bad = 0
  · subst hbad
    rw [if_neg (by simp)]
    have hvl : vlook (fun j => z (at' + j)) (n - at') most = _ := vres_last (fun j => z (at' + j)) (n - at') most 10 0 rfl (Nat.zero_le _)
    cases hR : lastAt (fun j => z (at' + j)) (n - at') 10 0 with
    | some k =>
      rw [hR] at hvl
      rw [hvl]
      refine gVar_some eb hb ho hc n at' most k z w h hR hn _ _ _ ?_
      show _ = ((if (k = 9 ∧ 1 < z (at' + k)) ∨ (z (at' + k) = 0 ∧ 0 < k) then ((0, 0, 11) : Nat × Nat × Nat) else if most < vs (fun j => z (at' + j)) (k + 1) then (0, 0, 12) else (vs (fun j => z (at' + j)) (k + 1), k + 1, 0)).1, at' + (if (k = 9 ∧ 1 < z (at' + k)) ∨ (z (at' + k) = 0 ∧ 0 < k) then ((0, 0, 11) : Nat × Nat × Nat) else if most < vs (fun j => z (at' + j)) (k + 1) then (0, 0, 12) else (vs (fun j => z (at' + j)) (k + 1), k + 1, 0)).2.1, (if (k = 9 ∧ 1 < z (at' + k)) ∨ (z (at' + k) = 0 ∧ 0 < k) then ((0, 0, 11) : Nat × Nat × Nat) else if most < vs (fun j => z (at' + j)) (k + 1) then (0, 0, 12) else (vs (fun j => z (at' + j)) (k + 1), k + 1, 0)).2.2)
      by_cases h1 : (k = 9 ∧ 1 < z (at' + k)) ∨ (z (at' + k) = 0 ∧ 0 < k)
      · rw [if_pos h1, if_pos h1]; rfl
      · rw [if_neg h1, if_neg h1]
        by_cases h2 : most < vs (fun j => z (at' + j)) (k + 1)
        · rw [if_pos h2, if_pos h2]; rfl
        · rw [if_neg h2, if_neg h2]
    | none =>
      rw [hR] at hvl
      rw [hvl]
      show Calls _ _ _ _ fun e w' => e = .returned (.int .u64 ((if n - at' < 10 then ((0, 0, 10) : Nat × Nat × Nat) else (0, 0, 11)).1 : Nat)) ∧ But eb w w' ∧ IsG w' eb hb ho hc n z (at' + (if n - at' < 10 then ((0, 0, 10) : Nat × Nat × Nat) else (0, 0, 11)).2.1) (if n - at' < 10 then ((0, 0, 10) : Nat × Nat × Nat) else (0, 0, 11)).2.2
      have hla := gLast eb hb ho hc n at' 0 z w h none hR
      replace hla : Calls Tryz.prog 167 #[.pointer (some ⟨eb, 0, none⟩)] w fun e w' => e = .returned (.int .i64 (-1)) ∧ w.Since w.heap.size w' := hla
      have c2 := h.c2
      clear hvl hR
      by_cases hm : n - at' < 10
      · rw [if_pos hm]
        have hp : ((n - at' : Nat) : Int) < 10 := by omega
        go_enter Tryz.func144, Tryz.ntmps144
        go_wp2_with fail
        refine hla.mono ?_
        rintro e w1 ⟨rfl, hs1⟩
        have h1 := h.since hs1
        have f2 := h1.rd.frozen 2
        have g2 := h1.c2
        have hI := h1.setBad 11
        have hB : But eb w (w1.setCell ⟨eb, 2, none⟩ (.int .i64 11)) := (But.of_since hs1).setCell 2 _
        have e11 : ((11 : Nat) : Int) = 11 := rfl
        rw [e11] at hI
        have hlf := gLeft eb hb ho hc n at' 11 z _ hI
        clear hla c2
        generalize ((n - at' : Nat) : Int) = LL at *
        go_wp2_with fail
        generalize w1.setCell ⟨eb, 2, none⟩ (.int .i64 11) = w2 at *
        refine hlf.mono ?_
        rintro e w3 ⟨rfl, m3, rfl⟩
        have h3 := hI.since (since_drewN' (World.Since.refl _ _) m3)
        have f3 := h3.rd.frozen 2
        have g3 := h3.c2
        have hI3 := h3.setBad 10
        have hB3 : But eb w ((w2.drewN m3).setCell ⟨eb, 2, none⟩ (.int .i64 10)) := (hB.trans (But.of_since (since_drewN' (World.Since.refl _ _) m3))).setCell 2 _
        generalize w2.drewN m3 = w3 at *
        clear hlf g2 f2
        go_wp2_with fail
        go_ret
        exact ⟨rfl, hB3, hI3⟩
      · rw [if_neg hm]
        have hp : ¬ (((n - at' : Nat) : Int) < 10) := by omega
        go_enter Tryz.func144, Tryz.ntmps144
        go_wp2_with fail
        refine hla.mono ?_
        rintro e w1 ⟨rfl, hs1⟩
        have h1 := h.since hs1
        have f2 := h1.rd.frozen 2
        have g2 := h1.c2
        have hI := h1.setBad 11
        have hB : But eb w (w1.setCell ⟨eb, 2, none⟩ (.int .i64 11)) := (But.of_since hs1).setCell 2 _
        have e11 : ((11 : Nat) : Int) = 11 := rfl
        rw [e11] at hI
        have hlf := gLeft eb hb ho hc n at' 11 z _ hI
        clear hla c2
        generalize ((n - at' : Nat) : Int) = LL at *
        go_wp2_with fail
        generalize w1.setCell ⟨eb, 2, none⟩ (.int .i64 11) = w2 at *
        refine hlf.mono ?_
        rintro e w3 ⟨rfl, m3, rfl⟩
        have h3 := hI.since (since_drewN' (World.Since.refl _ _) m3)
        have hB3 : But eb w (w2.drewN m3) := hB.trans (But.of_since (since_drewN' (World.Since.refl _ _) m3))
        generalize w2.drewN m3 = w3 at *
        clear hlf g2 f2
        go_wp2_with fail
        go_ret
        exact ⟨rfl, hB3, h3⟩
  · rw [if_pos hbad]
    have hq : ((bad : Int) != 0) = true := by simp; omega
    have c2 := h.c2
    go_enter Tryz.func144, Tryz.ntmps144
    go_wp2_with fail
    go_ret
    exact ⟨rfl, But.of_since (World.Since.refl _ _), h⟩

set_option maxHeartbeats 1600000 in
theorem gText (eb hb ho hc n at' bad : Nat) (most : Int) (z : Nat → Nat) (w : World) (h : IsG w eb hb ho hc n z at' bad) (hm : most ≤ 9223372036854775807) (hn : n ≤ 140737488351232) :
    Calls Tryz.prog 145 #[.pointer (some ⟨eb, 0, none⟩), .int .i64 most] w fun e w' => (∃ ta, e = .returned (.slice ta (bytesAns z n most.toNat at' bad).1 (bytesAns z n most.toNat at' bad).1) ∧ Txt w.heap.size w' ta (bytesAns z n most.toNat at' bad).1 (fun j => z ((bytesAns z n most.toNat at' bad).2.1 + j))) ∧ But eb w w' ∧ IsG w' eb hb ho hc n z (bytesAns z n most.toNat at' bad).2.2.1 (bytesAns z n most.toNat at' bad).2.2.2 := by
  obtain ⟨M, hM, hMb⟩ : ∃ M : Nat, M = most.toNat ∧ M < 9223372036854775808 := ⟨_, rfl, by omega⟩
  rw [← hM]
  have hle := h.le
  have c1 := h.c1
  have key : ∀ (X : Int), X = (M : Int) → Calls Tryz.prog 144 #[.pointer (some ⟨eb, 0, none⟩), .int .u64 X] w fun e w' => e = .returned (.int .u64 ((varAns z n M at' bad).1 : Nat)) ∧ But eb w w' ∧ IsG w' eb hb ho hc n z (varAns z n M at' bad).2.1 (varAns z n M at' bad).2.2 := fun X hX => by rw [hX]; exact gVar eb hb ho hc n at' bad M z w h hn
  obtain ⟨p1, p2, p3⟩ := bytes_parts z n M at' bad
  generalize bytesAns z n M at' bad = BB at *
  obtain ⟨bl, bf, ba, bb⟩ := BB
  generalize varAns z n M at' bad = V at *
  obtain ⟨A, a2, b2⟩ := V
  replace p3 : A ≤ M := p3
  have raw : ∀ w1, IsG w1 eb hb ho hc n z a2 b2 → Calls Tryz.prog 169 #[.pointer (some ⟨eb, 0, none⟩), .int .i64 (A : Nat)] w1 fun e w' => (∃ ta, e = .returned (.slice ta (rawAns n A a2 b2).1 (rawAns n A a2 b2).1) ∧ Txt w1.heap.size w' ta (rawAns n A a2 b2).1 (fun j => z (a2 + j))) ∧ But eb w1 w' ∧ IsG w' eb hb ho hc n z (rawAns n A a2 b2).2.2.1 (rawAns n A a2 b2).2.2.2 := fun w1 h1 => by
    have := gRaw eb hb ho hc n a2 b2 A z w1 h1 (by omega)
    rw [raw_from] at this
    exact this
  generalize rawAns n A a2 b2 = R at *
  obtain ⟨l, fr, a3, b3⟩ := R
  have HK := hide key
  have HR := hide raw
  clear key raw
  have hA64 : (A : Int) < 9223372036854775808 := by omega
  obtain ⟨X0, hX0, hcase⟩ : ∃ X0 : Int, X0 = (M : Int) ∧ ((most < 0 ∧ X0 = 0) ∨ (¬ most < 0 ∧ X0 = most)) := by
    by_cases hneg : most < 0
    · exact ⟨0, by omega, Or.inl ⟨hneg, rfl⟩⟩
    · exact ⟨most, by omega, Or.inr ⟨hneg, rfl⟩⟩
  clear hM
  rcases hcase with ⟨hneg, rfl⟩ | ⟨hneg, rfl⟩
  all_goals
    go_enter Tryz.func145, Tryz.ntmps145
    have HX := hide hX0
    clear hX0
    go_wp2_with fail
    refine ((unhide HK) _ (unhide HX)).mono ?_
    rintro e w1 ⟨rfl, hB1, hI1⟩
    have hr1 := (unhide HR) w1 hI1
    clear HK HR
    go_wp2_with fail
    refine hr1.mono ?_
    rintro e w2 ⟨⟨ta, rfl, htx⟩, hB2, hI2⟩
    have g2 := hI2.c2
    have hB := hB1.trans hB2
    clear hr1
    by_cases hb3 : b3 = 0
    · obtain ⟨q1, q2, q3, q4⟩ := p2 hb3
      replace q1 : bl = l := q1
      replace q2 : bf = a2 := q2
      replace q3 : ba = a3 := q3
      replace q4 : bb = 0 := q4
      subst q1
      subst q2
      subst q3
      subst q4
      subst hb3
      clear p1 p2
      go_wp2_with fail
      go_ret
      exact ⟨⟨ta, rfl, htx.mono' hB1.size⟩, hB, hI2⟩
    · obtain ⟨q1, q3, q4⟩ := p1 hb3
      replace q1 : bl = 0 := q1
      replace q3 : ba = at' := q3
      replace q4 : bb = b3 := q4
      subst q1
      subst q3
      subst q4
      have hq : ((bb : Int) != 0) = true := by simp; omega
      have f1 := hI2.rd.frozen 1
      have g1 := hI2.c1
      have hI3 := hI2.setAt ba hle
      have hB3 := hB.setCell 1 (.int .i64 (ba : Int))
      clear p1 p2
      go_wp2_with fail
      go_ret
      exact ⟨⟨none, rfl, txt_none _ _ _ _ rfl⟩, hB3, hI3⟩
end Go.Proofs.YtonpmabdjngdcaaGreatDoor

/- The document's Reader over no bytes at all (a nil list), and over whatever list. -/
namespace Go.Proofs.YtonpmabdjngdcaaGreatDoor
open Go.RowKit
set_option maxRecDepth 100000

/-- A call of a Go function by its contract, as one step of a region that draws. -/
theorem step_call_eq {P : Program} {ops : Array Oper} {o : Oper} {a : Act} {w : World} {K : Act → World → Prop} {Q : Exit → Act → World → Prop} {E : Prop} (hgd : o.guard = none) (f : FuncId) (args : Array Value) (hrun : (execOp a.eval o).run P w = .ok (.enter f args) w) {Post : Ending → World → Prop} (hc : Calls P f args w Post)
    (h : ∀ e w', Post e w' → ∃ v, e = .returned v ∧ K (a.put o.dst v) w') : if Region.wanted o (yielded ops a.tmps) = true then Oper.wp P o a w K Q else E := by
  have hw : Region.wanted o (yielded ops a.tmps) = true := by simp [Region.wanted, hgd]
  rw [if_pos hw]
  unfold Oper.wp
  rw [hrun, Oper.upon_enter]
  refine hc.mono fun e w'' hh => ?_
  obtain ⟨v, rfl, hk⟩ := h e w'' hh
  exact hk
def nCell (ea : Option Addr) (bad : Nat) (i : Nat) : Value := if i = 0 then .slice ea 0 0 else if i = 1 then .int .i64 0 else .int .i64 (bad : Nat)
def IsN (w : World) (eb : Nat) (ea : Option Addr) (bad : Nat) : Prop := w.rowIs eb 144 3 (nCell ea bad)
theorem IsN.setBad {w : World} {eb : Nat} {ea : Option Addr} {bad : Nat} (h : IsN w eb ea bad) (q : Nat) : IsN (w.setCell ⟨eb, 2, none⟩ (.int .i64 q)) eb ea q :=
  (World.rowIs.set h 2 _).congr (fun i hi => by
      match i, hi with
      | 0, _ => rfl
      | 1, _ => rfl
      | 2, _ => rfl)
theorem IsN.setAt {w : World} {eb : Nat} {ea : Option Addr} {bad : Nat} (h : IsN w eb ea bad) : IsN (w.setCell ⟨eb, 1, none⟩ (.int .i64 0)) eb ea bad :=
  (World.rowIs.set h 1 _).congr (fun i hi => by
      match i, hi with
      | 0, _ => rfl
      | 1, _ => rfl
      | 2, _ => rfl)
theorem IsN.c0 {w : World} {eb : Nat} {ea : Option Addr} {bad : Nat} (h : IsN w eb ea bad) : w.cell? ⟨eb, 0, none⟩ = some (.slice ea 0 0) := World.rowIs.cell h (i := 0) (by decide)
theorem IsN.c1 {w : World} {eb : Nat} {ea : Option Addr} {bad : Nat} (h : IsN w eb ea bad) : w.cell? ⟨eb, 1, none⟩ = some (.int .i64 0) := World.rowIs.cell h (i := 1) (by decide)
theorem IsN.c2 {w : World} {eb : Nat} {ea : Option Addr} {bad : Nat} (h : IsN w eb ea bad) : w.cell? ⟨eb, 2, none⟩ = some (.int .i64 bad) := World.rowIs.cell h (i := 2) (by decide)
theorem rowN0 {w w' : World} {eb : Nat} {ea : Option Addr} {bad : Nat} (h : IsN w eb ea bad) (hs : w.Since w.heap.size w') : IsN w' eb ea bad := row_since h hs
theorem nLeft (eb : Nat) (ea : Option Addr) (bad : Nat) (w : World) (h : IsN w eb ea bad) : Calls Tryz.prog 168 #[.pointer (some ⟨eb, 0, none⟩)] w fun e w' => e = .returned (.int .i64 0) ∧ ∃ m, w' = w.drewN m := by
  have c1 := h.c1
  have c0 := h.c0
  go_enter Tryz.func168, Tryz.ntmps168
  go_wp2_with fail
  go_quiet (fail)
  go_wp2
  go_ret
  exact ⟨rfl, nq, rfl⟩
theorem nLast (eb : Nat) (ea : Option Addr) (bad : Nat) (w : World) (h : IsN w eb ea bad) : Calls Tryz.prog 167 #[.pointer (some ⟨eb, 0, none⟩)] w fun e w' => e = .returned (.int .i64 (-1)) ∧ ∃ m, w' = w.drewN m := by
  have c1 := h.c1
  have c0 := h.c0
  go_enter Tryz.func167, Tryz.ntmps167
  go_wp2_with fail
  go_loopg [3] 0 (fun q s3 wx => q = 0 ∧ s3 = .int .i64 0 ∧ w = wx)
  case atStart => exact ⟨rfl, rfl, rfl⟩
  case round =>
    obtain ⟨rfl, rfl, rfl⟩ := hrel
    go_wp2_with fail
    go_quiet (fail)
    go_wp2_with fail
    go_ret
    exact ⟨rfl, nq, rfl⟩
set_option maxHeartbeats 1600000 in
set_option maxRecDepth 100000 in
theorem nRaw (eb : Nat) (ea : Option Addr) (bad : Nat) (k : Int) (w : World) (h : IsN w eb ea bad) (hm : k ≤ 9223372036854775807) (hk : 0 ≤ k) :
    Calls Tryz.prog 169 #[.pointer (some ⟨eb, 0, none⟩), .int .i64 k] w fun e w' => (∃ ta, e = .returned (.slice ta 0 0) ∧ Txt w.heap.size w' ta 0 (fun _ => 0)) ∧ But eb w w' ∧ IsN w' eb ea (if bad = 0 ∧ 0 < k then 10 else bad) := by
  have c2 := h.c2
  by_cases hbad : bad = 0
  · subst hbad
    have hlf := nLeft eb ea 0 w h
    have hk0 : ¬ (k < 0) := by omega
    by_cases hp : 0 < k
    · rw [if_pos ⟨rfl, hp⟩]
      go_enter Tryz.func169, Tryz.ntmps169
      go_wp2_with fail
      refine hlf.mono ?_
      rintro e w1 ⟨rfl, m1, rfl⟩
      have hs1 := since_drewN' (World.Since.refl w.heap.size w) m1
      have h1 : IsN (w.drewN m1) eb ea 0 := row_since h hs1
      have f2 := World.rowIs.frozen h1 2
      have c3 := h1.c2
      have hI := h1.setBad 10
      have hB : But eb w ((w.drewN m1).setCell ⟨eb, 2, none⟩ (.int .i64 10)) := (But.of_since hs1).setCell 2 _
      generalize w.drewN m1 = w1 at *
      clear hlf
      go_wp2_with fail
      go_ret
      exact ⟨⟨none, rfl, txt_none _ _ _ _ rfl⟩, hB, hI⟩
    · obtain rfl : k = 0 := by omega
      rw [if_neg (by omega)]
      go_enter Tryz.func169, Tryz.ntmps169
      go_wp2_with fail
      refine hlf.mono ?_
      rintro e w1 ⟨rfl, m1, rfl⟩
      have hs1 := since_drewN' (World.Since.refl w.heap.size w) m1
      have h1 : IsN (w.drewN m1) eb ea 0 := row_since h hs1
      have d0 := h1.c0
      have d1 := h1.c1
      have hcp : ∀ W, (w.drewN m1).Since (w.drewN m1).heap.size W → Calls Tryz.prog 15 #[.slice ea 0 0] W fun e w' => ∃ g, e = .returned (.slice (some ⟨g, 0, none⟩) 0 0) ∧ w.heap.size ≤ g ∧ (w.drewN m1).Since (w.drewN m1).heap.size w' ∧ w'.rowIs g 5 0 (fun _ => .int .u8 ((0 : Nat) : Int)) := fun W hs => (copy_any ea 0 0 (fun _ => 0) W (by decide) (fun j hj => absurd hj (Nat.not_lt_zero _))).mono fun e w' ⟨h1, h2, _, h4⟩ => ⟨_, h1, by have := hs.size; exact this, hs.trans (since_mono h2 hs.size), h4⟩
      have hlt := World.rowIs.lt h
      have HC := hide hcp
      clear hlf hcp c2
      generalize hw1 : w.drewN m1 = w1 at *
      clear hw1
      have hw0 : IntKind.i64.wrap 0 = 0 := by rw [IntKind.wrap_i64]; decide
      cases ea
      all_goals
       go_upto_region 9 with fail
       go_region_law (refine step_call_eq (by rfl) 15 _ ?_ ((unhide HC) _ (World.Since.refl _ _).drew) ?_; kernel_rfl; rintro e w2 ⟨g, rfl, hg, hs2, hr2⟩; refine ⟨_, rfl, ?_⟩)
       all_goals
         have h2 := rowN0 h1 hs2
         have t1 := h2.c1
         have tf := World.rowIs.frozen h2 1
         have hI := h2.setAt
         have hsw := hs1.trans (since_mono hs2 hs1.size)
         have hB : But eb w (w2.setCell ⟨eb, 1, none⟩ (.int .i64 0)) := (But.of_since hsw).setCell 1 _
         have hge : g ≠ eb := fun e => by subst e; omega
         have hT : Txt w.heap.size (w2.setCell ⟨eb, 1, none⟩ (.int .i64 0)) (some ⟨g, 0, none⟩) 0 (fun _ => 0) := Or.inr ⟨g, rfl, hg, hr2.setOther (by show g ≠ eb; exact hge) _⟩
         clear HC d0 d1
         go_wp2_with fail
         go_ret
         exact ⟨⟨_, rfl, hT⟩, hB, hI⟩
  · rw [if_neg (fun e => hbad e.1)]
    have hq : ((bad : Int) != 0) = true := by simp; omega
    go_enter Tryz.func169, Tryz.ntmps169
    go_wp2_with fail
    go_ret
    exact ⟨⟨none, rfl, txt_none _ _ _ _ rfl⟩, But.of_since (World.Since.refl _ _), h⟩
set_option maxHeartbeats 1600000 in
set_option maxRecDepth 100000 in
theorem nVar (eb : Nat) (ea : Option Addr) (bad : Nat) (most : Int) (w : World) (h : IsN w eb ea bad) :
    Calls Tryz.prog 144 #[.pointer (some ⟨eb, 0, none⟩), .int .u64 most] w fun e w' => e = .returned (.int .u64 0) ∧ But eb w w' ∧ IsN w' eb ea (if bad = 0 then 10 else bad) := by
  have c2 := h.c2
  by_cases hbad : bad = 0
  · subst hbad
    rw [if_pos rfl]
    have hla := nLast eb ea 0 w h
    go_enter Tryz.func144, Tryz.ntmps144
    go_wp2_with fail
    refine hla.mono ?_
    rintro e w1 ⟨rfl, m1, rfl⟩
    have hs1 := since_drewN' (World.Since.refl w.heap.size w) m1
    have h1 : IsN (w.drewN m1) eb ea 0 := row_since h hs1
    have f2 := World.rowIs.frozen h1 2
    have c3 := h1.c2
    have hI := h1.setBad 11
    have hB : But eb w ((w.drewN m1).setCell ⟨eb, 2, none⟩ (.int .i64 11)) := (But.of_since hs1).setCell 2 _
    have hlf := nLeft eb ea 11 _ hI
    generalize w.drewN m1 = w1 at *
    clear hla
    go_wp2_with fail
    refine hlf.mono ?_
    rintro e w2 ⟨rfl, m2, rfl⟩
    have hs2 := since_drewN' (World.Since.refl (w1.setCell ⟨eb, 2, none⟩ (.int .i64 11)).heap.size (w1.setCell ⟨eb, 2, none⟩ (.int .i64 11))) m2
    have h2 := rowN0 hI hs2
    have f3 := World.rowIs.frozen h2 2
    have c4 := h2.c2
    have hJ := h2.setBad 10
    have hB2 : But eb w (((w1.setCell ⟨eb, 2, none⟩ (.int .i64 11)).drewN m2).setCell ⟨eb, 2, none⟩ (.int .i64 10)) := (hB.trans (But.of_since hs2)).setCell 2 _
    generalize (w1.setCell ⟨eb, 2, none⟩ (.int .i64 11)).drewN m2 = w3 at *
    clear hlf
    go_wp2_with fail
    go_ret
    exact ⟨rfl, hB2, hJ⟩
  · rw [if_neg hbad]
    have hq : ((bad : Int) != 0) = true := by simp; omega
    go_enter Tryz.func144, Tryz.ntmps144
    go_wp2_with fail
    go_ret
    exact ⟨rfl, But.of_since (World.Since.refl _ _), h⟩
set_option maxHeartbeats 1600000 in
set_option maxRecDepth 100000 in
theorem nText (eb : Nat) (ea : Option Addr) (bad : Nat) (most : Int) (w : World) (h : IsN w eb ea bad) :
    Calls Tryz.prog 145 #[.pointer (some ⟨eb, 0, none⟩), .int .i64 most] w fun e w' => e = .returned (.slice none 0 0) ∧ But eb w w' ∧ IsN w' eb ea (if bad = 0 then 10 else bad) := by
  have c1 := h.c1
  have hv : ∀ X, _ := fun X => nVar eb ea bad X w h
  obtain ⟨b2, hb2, hb0⟩ : ∃ b2, (if bad = 0 then 10 else bad) = b2 ∧ b2 ≠ 0 := ⟨_, rfl, by split <;> omega⟩
  rw [hb2] at hv ⊢
  clear hb2
  have hq : ((b2 : Int) != 0) = true := by simp; omega
  by_cases hm : most < 0
  all_goals
    go_enter Tryz.func145, Tryz.ntmps145
    go_wp2_with fail
    refine (hv _).mono ?_
    rintro e w1 ⟨rfl, hB1, h1⟩
    have hr := nRaw eb ea b2 0 w1 h1 (by decide) (by decide)
    rw [if_neg (fun e => hb0 e.1)] at hr
    clear hv
    go_wp2_with fail
    refine hr.mono ?_
    rintro e w2 ⟨⟨ta, rfl, _⟩, hB2, h2⟩
    have d2 := h2.c2
    have d1 := h2.c1
    have f1 := World.rowIs.frozen h2 1
    have hI := h2.setAt
    have hB := (hB1.trans hB2).setCell 1 (.int .i64 0)
    clear hr
    go_wp2_with fail
    go_ret
    exact ⟨rfl, hB, hI⟩
/-- The document's Reader over whatever list. -/
def EY (w : World) (eb : Nat) (ea : Option Addr) (hc n : Nat) (z : Nat → Nat) (at' bad : Nat) : Prop := (∃ hb ho, ea = some ⟨hb, ho, none⟩ ∧ IsG w eb hb ho hc n z at' bad) ∨ (n = 0 ∧ hc = 0 ∧ at' = 0 ∧ IsN w eb ea bad)
theorem EY.lt {w : World} {eb : Nat} {ea : Option Addr} {hc n : Nat} {z : Nat → Nat} {at' bad : Nat} (h : EY w eb ea hc n z at' bad) : eb < w.heap.size ∧ (0 < n → ∀ ad, ea = some ad → ad.block < w.heap.size) := by
  rcases h with ⟨hb, ho, rfl, h⟩ | ⟨rfl, _, _, h⟩
  · exact ⟨h.rd.lt, fun hp ad e => by cases e; exact h.hlt hp⟩
  · exact ⟨World.rowIs.lt h, fun hp => absurd hp (Nat.lt_irrefl _)⟩
theorem EY.later {w w' : World} {eb : Nat} {ea : Option Addr} {hc n : Nat} {z : Nat → Nat} {at' bad : Nat} (h : EY w eb ea hc n z at' bad) (h1 : w'.heap[eb]? = w.heap[eb]?) (h2 : 0 < n → ∀ ad, ea = some ad → w'.heap[ad.block]? = w.heap[ad.block]?) : EY w' eb ea hc n z at' bad := by
  rcases h with ⟨hb, ho, rfl, h⟩ | ⟨rfl, a, b, h⟩
  · exact Or.inl ⟨hb, ho, rfl, h.later h1 (fun hp => h2 hp _ rfl)⟩
  · exact Or.inr ⟨rfl, a, b, World.rowIs.of_block h h1⟩
theorem yText (eb : Nat) (ea : Option Addr) (hc n at' bad : Nat) (most : Int) (z : Nat → Nat) (w : World) (h : EY w eb ea hc n z at' bad) (hm : most ≤ 9223372036854775807) (hn : n ≤ 140737488351232) :
    Calls Tryz.prog 145 #[.pointer (some ⟨eb, 0, none⟩), .int .i64 most] w fun e w' => (∃ ta, e = .returned (.slice ta (bytesAns z n most.toNat at' bad).1 (bytesAns z n most.toNat at' bad).1) ∧ Txt w.heap.size w' ta (bytesAns z n most.toNat at' bad).1 (fun j => z ((bytesAns z n most.toNat at' bad).2.1 + j))) ∧ But eb w w' ∧ EY w' eb ea hc n z (bytesAns z n most.toNat at' bad).2.2.1 (bytesAns z n most.toNat at' bad).2.2.2 := by
  rcases h with ⟨hb, ho, rfl, h⟩ | ⟨rfl, rfl, rfl, h⟩
  · exact (gText eb hb ho hc n at' bad most z w h hm hn).mono (fun e w' ⟨h1, h2, h3⟩ => ⟨h1, h2, Or.inl ⟨hb, ho, rfl, h3⟩⟩)
  · have hA : bytesAns z 0 most.toNat 0 bad = (0, 0, 0, if bad = 0 then 10 else bad) := by
      unfold bytesAns
      by_cases hb : bad = 0
      · subst hb; simp [blook, vlook, vres]
      · simp [hb]
    rw [hA]
    exact (nText eb ea bad most w h).mono (fun e w' ⟨h1, h2, h3⟩ => ⟨⟨none, h1, Or.inl ⟨rfl, rfl⟩⟩, h2, Or.inr ⟨rfl, rfl, rfl, h3⟩⟩)
theorem yRaw (eb : Nat) (ea : Option Addr) (hc n at' bad : Nat) (k : Nat) (z : Nat → Nat) (w : World) (h : EY w eb ea hc n z at' bad) (hm : k ≤ 1000) :
    Calls Tryz.prog 169 #[.pointer (some ⟨eb, 0, none⟩), .int .i64 (k : Int)] w fun e w' => (∃ ta, e = .returned (.slice ta (rawAns n k at' bad).1 (rawAns n k at' bad).1) ∧ Txt w.heap.size w' ta (rawAns n k at' bad).1 (fun j => z ((rawAns n k at' bad).2.1 + j))) ∧ But eb w w' ∧ EY w' eb ea hc n z (rawAns n k at' bad).2.2.1 (rawAns n k at' bad).2.2.2 := by
  rcases h with ⟨hb, ho, rfl, h⟩ | ⟨rfl, rfl, rfl, h⟩
  · exact (gRaw eb hb ho hc n at' bad k z w h (by omega)).mono (fun e w' ⟨h1, h2, h3⟩ => ⟨h1, h2, Or.inl ⟨hb, ho, rfl, h3⟩⟩)
  · have hA : rawAns 0 (k : Int) 0 bad = (0, 0, 0, if bad = 0 ∧ 0 < (k : Int) then 10 else bad) := by
      unfold rawAns rlook
      by_cases hb : bad = 0
      · subst hb
        by_cases hk : 0 < k
        · simp [hk]
        · obtain rfl : k = 0 := by omega
          simp
      · simp [hb]
    rw [hA]
    exact (nRaw eb ea bad k w h (by omega) (by omega)).mono (fun e w' ⟨⟨ta, h1, ht⟩, h2, h3⟩ => ⟨⟨ta, h1, by
      rcases ht with q | ⟨t, q1, q2, q3⟩
      · exact Or.inl q
      · exact Or.inr ⟨t, q1, q2, q3.congr (fun j hj => absurd hj (Nat.not_lt_zero _))⟩⟩, h2, Or.inr ⟨rfl, rfl, rfl, h3⟩⟩)
end Go.Proofs.YtonpmabdjngdcaaGreatDoor

/- What is written is read: the plain mathematics. -/
namespace Go.Proofs.YtonpmabdjngdcaaGreatDoor
open Go.RowKit

/-- Bytes from at' on are these, as far as there are bytes. -/
def Agr (z : Nat → Nat) (n at' : Nat) (l : List Nat) : Prop := ∀ j, j < l.length → at' + j < n → z (at' + j) = l.getD j 0
/-- The ways in which an item is met: behind a fault, whole, or cut by one byte. -/
def Sc (z : Nat → Nat) (n at' bad : Nat) (l : List Nat) : Prop := bad ≠ 0 ∨ (bad = 0 ∧ Agr z n at' l ∧ (at' + l.length ≤ n ∨ at' + l.length = n + 1))

theorem fl_len (k N : Nat) : (fl k N).length = k := by simp [fl]
theorem fl_get (k N j : Nat) (h : j < k) : (fl k N).getD j 0 = N / 256 ^ (k - 1 - j) % 256 := by
  unfold fl
  simp [List.getD, h]
theorem be_digits (y : Nat → Nat) (k N : Nat) (hN : N < 256 ^ k) (h : ∀ j, j < k → y j = N / 256 ^ (k - 1 - j) % 256) : ∀ i, i ≤ k → be y i = N / 256 ^ (k - i)
  | 0, _ => by
    show 0 = _
    rw [Nat.sub_zero, Nat.div_eq_of_lt hN]
  | i + 1, hi => by
    have ih := be_digits y k N hN h i (by omega)
    show be y i * 256 + y i = _
    rw [ih, h i (by omega), show k - i = (k - (i + 1)) + 1 by omega, show k - 1 - i = k - (i + 1) by omega, Nat.pow_succ, ← Nat.div_div_eq_div_mul]
    omega
theorem fix_res (z : Nat → Nat) (n k N at' bad : Nat) (hk : 0 < k) (hN : N < 256 ^ k) (h : Sc z n at' bad (fl k N)) :
    (bad ≠ 0 ∧ fixAns z n k at' bad = (0, at', bad)) ∨ (bad = 0 ∧ at' + k ≤ n ∧ fixAns z n k at' bad = (N, at' + k, 0)) ∨ (bad = 0 ∧ at' + k = n + 1 ∧ fixAns z n k at' bad = (0, at', 10)) := by
  unfold fixAns
  rcases h with h | ⟨rfl, ha, h⟩
  · exact Or.inl ⟨h, if_pos h⟩
  · rw [fl_len] at h
    rw [if_neg (fun e => e rfl)]
    rcases h with h | h
    · refine Or.inr (Or.inl ⟨rfl, h, ?_⟩)
      rw [if_neg (by omega)]
      have := be_digits (fun j => z (at' + j)) k N hN (fun j hj => by
        rw [← fl_get k N j hj]
        exact ha j (by rw [fl_len]; exact hj) (by omega)) k (Nat.le_refl _)
      rw [this, Nat.sub_self, Nat.pow_zero, Nat.div_one]
    · exact Or.inr (Or.inr ⟨rfl, h, if_pos (by omega)⟩)

theorem vl_pos (f N : Nat) : 0 < (vl f N).length := by
  cases f with
  | zero => exact Nat.zero_lt_one
  | succ f =>
    unfold vl
    split
    · exact Nat.zero_lt_one
    · simp
theorem vl_one {f M : Nat} (h : M < 128) : vl f M = [M] := by
  cases f with
  | zero => unfold vl; rw [Nat.mod_eq_of_lt (by omega)]
  | succ f => unfold vl; rw [if_pos h]
theorem vres_one (y : Nat → Nat) (m most N f i M : Nat) (hM : M < 128) (h9 : i = 9 → M < 2) (hp : 0 < i → 0 < M) (hv : vs y i + M * 128 ^ i = N) (ha : i < m → y i = M) :
    (i + 1 ≤ m → N ≤ most → vres y m most (f + 1) i = (N, i + 1, 0)) ∧ (i + 1 = m + 1 → (vres y m most (f + 1) i).2.2 = 10) := by
  refine ⟨fun h1 h2 => ?_, fun h1 => ?_⟩
  · have e := ha (by omega)
    have hs : vs y (i + 1) = N := by
      show vs y i + y i % 128 * 128 ^ i = N
      rw [e, Nat.mod_eq_of_lt hM]; exact hv
    unfold vres
    rw [if_neg (by omega), if_neg (by omega), if_neg (by omega), if_neg (by omega), hs, if_neg (by omega)]
  · unfold vres
    rw [if_pos (by omega)]
theorem vres_vl (y : Nat → Nat) (m most N : Nat) : ∀ f i M, i + f = 9 → M < 2 * 128 ^ f → (0 < i → 0 < M) → vs y i + M * 128 ^ i = N → (∀ j, j < (vl f M).length → i + j < m → y (i + j) = (vl f M).getD j 0) →
    (i + (vl f M).length ≤ m → N ≤ most → vres y m most (f + 1) i = (N, i + (vl f M).length, 0)) ∧ (i + (vl f M).length = m + 1 → (vres y m most (f + 1) i).2.2 = 10)
  | 0, i, M, hi, hM, hp, hv, ha => by
    have h128 : M < 128 := by simp at hM; omega
    rw [vl_one h128] at ha ⊢
    exact vres_one y m most N 0 i M h128 (fun _ => by simpa using hM) hp hv (fun h => by simpa using ha 0 (by simp) (by omega))
  | f + 1, i, M, hi, hM, hp, hv, ha => by
    by_cases h128 : M < 128
    · rw [vl_one h128] at ha ⊢
      exact vres_one y m most N (f + 1) i M h128 (fun h => by omega) hp hv (fun h => by simpa using ha 0 (by simp) (by omega))
    · have e : vl (f + 1) M = (M % 128 + 128) :: vl f (M / 128) := by
        show (if M < 128 then [M] else (M % 128 + 128) :: vl f (M / 128)) = _
        rw [if_neg h128]
      rw [e] at ha ⊢
      have hlp := vl_pos f (M / 128)
      simp only [List.length_cons]
      have h0 : i < m → y i = M % 128 + 128 := fun h => by simpa using ha 0 (by simp) (by omega)
      have step : i < m → vres y m most (f + 1 + 1) i = vres y m most (f + 1) (i + 1) := fun h => by
        have e0 := h0 h
        rw [vres.eq_2]
        rw [if_neg (by omega), if_neg (by omega), if_pos (by omega)]
      have ih := fun (hm : i < m) => vres_vl y m most N f (i + 1) (M / 128) (by omega) (by rw [Nat.pow_succ] at hM; omega) (fun _ => by omega) (by
          show vs y i + y i % 128 * 128 ^ i + M / 128 * 128 ^ (i + 1) = N
          rw [h0 hm, ← hv, Nat.pow_succ, show (M % 128 + 128) % 128 = M % 128 by omega]
          have e1 : M * 128 ^ i = (M % 128 + 128 * (M / 128)) * 128 ^ i := by rw [Nat.mod_add_div]
          rw [e1, Nat.add_mul, Nat.add_assoc, Nat.mul_comm (128 ^ i) 128, ← Nat.mul_assoc, Nat.mul_comm (M / 128) 128])
        (fun j hj hjm => by
          have := ha (j + 1) (by simp; exact hj) (by omega)
          rw [show i + (j + 1) = i + 1 + j by omega] at this
          simpa using this)
      refine ⟨fun h1 h2 => ?_, fun h1 => ?_⟩
      · rw [step (by omega), (ih (by omega)).1 (by omega) h2]
        rw [show i + 1 + (vl f (M / 128)).length = i + ((vl f (M / 128)).length + 1) by omega]
      · rw [step (by omega)]
        exact (ih (by omega)).2 (by omega)
/-- A NUMBER THAT WAS WRITTEN IS READ; without its last byte it is not. -/
theorem vlook_vl (y : Nat → Nat) (m most N : Nat) (hN : N < 18446744073709551616) (ha : ∀ j, j < (vl 9 N).length → j < m → y j = (vl 9 N).getD j 0) :
    ((vl 9 N).length ≤ m → N ≤ most → vlook y m most = (N, (vl 9 N).length, 0)) ∧ ((vl 9 N).length = m + 1 → (vlook y m most).2.2 = 10) := by
  have := vres_vl y m most N 9 0 N rfl (by simpa using hN) (fun h => absurd h (Nat.lt_irrefl _)) (by show 0 + N * 128 ^ 0 = N; omega) (fun j hj hjm => by
    rw [Nat.zero_add] at hjm ⊢; exact ha j hj hjm)
  simp only [Nat.zero_add] at this
  exact this
theorem var_res (z : Nat → Nat) (n N at' bad : Nat) (hN : N < 18446744073709551616) (hle : at' ≤ n) (h : Sc z n at' bad (vl 9 N)) :
    (bad ≠ 0 ∧ varAns z n N at' bad = (0, at', bad)) ∨ (bad = 0 ∧ at' + (vl 9 N).length ≤ n ∧ varAns z n N at' bad = (N, at' + (vl 9 N).length, 0)) ∨ (bad = 0 ∧ at' + (vl 9 N).length = n + 1 ∧ (varAns z n N at' bad).2.2 = 10) := by
  unfold varAns
  rcases h with h | ⟨rfl, ha, h⟩
  · exact Or.inl ⟨h, if_pos h⟩
  · rw [if_neg (fun e => e rfl)]
    have hv := vlook_vl (fun j => z (at' + j)) (n - at') N N hN (fun j hj hjm => ha j hj (by omega))
    rcases h with h | h
    · exact Or.inr (Or.inl ⟨rfl, h, by rw [hv.1 (by omega) (Nat.le_refl _)]⟩)
    · exact Or.inr (Or.inr ⟨rfl, h, hv.2 (by omega)⟩)
theorem range_map_get (zb : Nat → Nat) (b j : Nat) (h : j < b) : ((List.range b).map zb).getD j 0 = zb j := getD_range_map zb b j h
theorem getD_left {l r : List Nat} {j : Nat} (h : j < l.length) : (l ++ r).getD j 0 = l.getD j 0 := by
  simp [List.getD, List.getElem?_append_left h]
theorem getD_right {l r : List Nat} {j : Nat} : (l ++ r).getD (l.length + j) 0 = r.getD j 0 := by
  simp [List.getD, List.getElem?_append_right]
theorem bytes_res (z : Nat → Nat) (n b at' bad : Nat) (zb : Nat → Nat) (hb : b < 18446744073709551616) (hle : at' ≤ n) (h : Sc z n at' bad (vl 9 b ++ (List.range b).map zb)) :
    (bad ≠ 0 ∧ bytesAns z n b at' bad = (0, at', at', bad)) ∨ (bad = 0 ∧ at' + (vl 9 b ++ (List.range b).map zb).length ≤ n ∧ (bytesAns z n b at' bad = (b, at' + (vl 9 b).length, at' + (vl 9 b ++ (List.range b).map zb).length, 0) ∧ ∀ j, j < b → z (at' + (vl 9 b).length + j) = zb j)) ∨
    (bad = 0 ∧ at' + (vl 9 b ++ (List.range b).map zb).length = n + 1 ∧ (bytesAns z n b at' bad).1 = 0 ∧ (bytesAns z n b at' bad).2.2.2 = 10) := by
  unfold bytesAns
  rcases h with h | ⟨rfl, ha, h⟩
  · exact Or.inl ⟨h, if_pos h⟩
  · rw [if_neg (fun e => e rfl)]
    have hlen : (vl 9 b ++ (List.range b).map zb).length = (vl 9 b).length + b := by simp
    rw [hlen] at h ⊢
    have hv := vlook_vl (fun j => z (at' + j)) (n - at') b b hb (fun j hj hjm => by
      show z (at' + j) = _
      rw [ha j (by rw [hlen]; omega) (by omega), getD_left hj])
    have hp := vl_pos 9 b
    rcases h with h | h
    · refine Or.inr (Or.inl ⟨rfl, h, ?_, fun j hj => ?_⟩)
      · unfold blook
        rw [hv.1 (by omega) (Nat.le_refl _)]
        simp only [ne_eq, not_true_eq_false, if_false]
        rw [if_neg (by omega)]
      · rw [Nat.add_assoc, ha ((vl 9 b).length + j) (by rw [hlen]; omega) (by omega), getD_right, range_map_get _ _ _ hj]
    · have hbk : (blook (fun j => z (at' + j)) (n - at') b).1 = 0 ∧ (blook (fun j => z (at' + j)) (n - at') b).2.2 = 10 := by
        unfold blook
        rcases Nat.eq_zero_or_pos b with h0 | h0
        · have h10 := hv.2 (by omega)
          rw [if_pos (by rw [h10]; decide), h10]
          exact ⟨rfl, rfl⟩
        · rw [hv.1 (by omega) (Nat.le_refl _)]
          simp only [ne_eq, not_true_eq_false, if_false]
          rw [if_pos (by omega)]
          exact ⟨rfl, rfl⟩
      exact Or.inr (Or.inr ⟨rfl, h, hbk.1, hbk.2⟩)
theorem raw_res (z : Nat → Nat) (n b at' bad : Nat) (zb : Nat → Nat) (hle : at' ≤ n) (h : Sc z n at' bad ((List.range b).map zb)) :
    (bad ≠ 0 ∧ rawAns n (b : Int) at' bad = (0, at', at', bad)) ∨ (bad = 0 ∧ at' + ((List.range b).map zb).length ≤ n ∧ (rawAns n (b : Int) at' bad = (b, at', at' + ((List.range b).map zb).length, 0) ∧ ∀ j, j < b → z (at' + j) = zb j)) ∨
    (bad = 0 ∧ at' + ((List.range b).map zb).length = n + 1 ∧ (rawAns n (b : Int) at' bad).1 = 0 ∧ (rawAns n (b : Int) at' bad).2.2.2 = 10) := by
  unfold rawAns
  have hlen : ((List.range b).map zb).length = b := by simp
  rcases h with h | ⟨rfl, ha, h⟩
  · exact Or.inl ⟨h, if_pos h⟩
  · rw [if_neg (fun e => e rfl), if_neg (by omega)]
    rw [hlen] at h ⊢
    unfold rlook
    rw [Int.toNat_natCast]
    rcases h with h | h
    · refine Or.inr (Or.inl ⟨rfl, h, ?_, fun j hj => ?_⟩)
      · rw [if_neg (by omega)]
      · rw [ha j (by rw [hlen]; exact hj) (by omega), range_map_get _ _ _ hj]
    · rw [if_pos (by omega)]
      exact Or.inr (Or.inr ⟨rfl, h, rfl, rfl⟩)
end Go.Proofs.YtonpmabdjngdcaaGreatDoor

/- The journal's records as plain data: what is written, what is read. -/
namespace Go.Proofs.YtonpmabdjngdcaaGreatDoor
open Go.RowKit

/-- A part, with its length ahead. -/
def partL (p : List Nat) : List Nat := vl 9 p.length ++ p
def partsL : List (List Nat) → List Nat
  | [] => []
  | p :: ps => partL p ++ partsL ps
theorem partsL_app : ∀ ps qs, partsL (ps ++ qs) = partsL ps ++ partsL qs
  | [], _ => rfl
  | p :: ps, qs => by simp only [List.cons_append, partsL, partsL_app ps qs, List.append_assoc]
def bodyL (N : Nat) (ps : List (List Nat)) : List Nat := fl 8 N ++ fl 4 ps.length ++ partsL ps
def headL (n : Nat) : List Nat := fl 1 167 ++ fl 8 n
def recL (N : Nat) (ps : List (List Nat)) : List Nat := headL (bodyL N ps).length ++ fl 4 (Crc.sum (headL (bodyL N ps).length)) ++ bodyL N ps ++ fl 4 (Crc.sum (bodyL N ps)) ++ fl 1 90
/-- So many bytes from a place on. -/
def cutZ (z : Nat → Nat) (at' k : Nat) : List Nat := (List.range k).map fun j => z (at' + j)
theorem cutZ_len (z : Nat → Nat) (at' k : Nat) : (cutZ z at' k).length = k := by simp [cutZ]

/-- The parts of a body, so many of them: what is read, where the reader stands, its fault. -/
def partsM (z : Nat → Nat) (n : Nat) : Nat → Nat → Nat → List (List Nat) × Nat × Nat
  | 0, at', bad => ([], at', bad)
  | k + 1, at', bad => (cutZ z (bytesAns z n 1048576 at' bad).2.1 (bytesAns z n 1048576 at' bad).1 :: (partsM z n k (bytesAns z n 1048576 at' bad).2.2.1 (bytesAns z n 1048576 at' bad).2.2.2).1, (partsM z n k (bytesAns z n 1048576 at' bad).2.2.1 (bytesAns z n 1048576 at' bad).2.2.2).2)
theorem partsM_len (z : Nat → Nat) (n : Nat) : ∀ k at' bad, (partsM z n k at' bad).1.length = k
  | 0, _, _ => rfl
  | k + 1, at', bad => by show (_ :: (partsM z n k _ _).1).length = _; rw [List.length_cons, partsM_len z n k]
/-- A body. -/
def bodyM (z : Nat → Nat) (n : Nat) : Option (Nat × List (List Nat)) :=
  if (fixAns z n 8 0 0).1 < 1 ∨ 1099511627776 < (fixAns z n 8 0 0).1 ∨ 64 < (fixAns z n 4 (fixAns z n 8 0 0).2.1 (fixAns z n 8 0 0).2.2).1 then none
  else if (partsM z n (fixAns z n 4 (fixAns z n 8 0 0).2.1 (fixAns z n 8 0 0).2.2).1 (fixAns z n 4 (fixAns z n 8 0 0).2.1 (fixAns z n 8 0 0).2.2).2.1 (fixAns z n 4 (fixAns z n 8 0 0).2.1 (fixAns z n 8 0 0).2.2).2.2).2 = (n, 0) then some ((fixAns z n 8 0 0).1, (partsM z n (fixAns z n 4 (fixAns z n 8 0 0).2.1 (fixAns z n 8 0 0).2.2).1 (fixAns z n 4 (fixAns z n 8 0 0).2.1 (fixAns z n 8 0 0).2.2).2.1 (fixAns z n 4 (fixAns z n 8 0 0).2.1 (fixAns z n 8 0 0).2.2).2.2).1) else none
/-- A head: how many bytes the body has. -/
def headM (z : Nat → Nat) (n at' : Nat) : Option Nat :=
  if n - at' < 13 then none else if be (fun j => z (at' + 9 + j)) 4 ≠ Crc.sum (cutZ z at' 9) then none else if z at' ≠ 167 ∨ 1048558 < be (fun j => z (at' + 1 + j)) 8 then none else some (be (fun j => z (at' + 1 + j)) 8)
/-- A record: its number, its parts, where it ends. -/
def recM (z : Nat → Nat) (n at' : Nat) : Option (Nat × List (List Nat) × Nat) :=
  match headM z n at' with
  | none => none
  | some k => if n - (at' + 13) < k + 5 ∨ be (fun j => z (at' + 13 + k + j)) 4 ≠ Crc.sum (cutZ z (at' + 13) k) ∨ z (at' + 13 + k + 4) ≠ 90 then none else match bodyM (fun j => z (at' + 13 + j)) k with
    | none => none
    | some (N, ps) => some (N, ps, at' + 13 + k + 5)
end Go.Proofs.YtonpmabdjngdcaaGreatDoor

/- Messages as plain data: what may be, what is written, what is read. -/
namespace Go.Proofs.YtonpmabdjngdcaaGreatDoor
open Go.RowKit

/-- A message: its numbers and its texts, by the cell in which they lie. -/
structure Mg where
  n : Nat → Int
  s : Nat → List Nat
def mg0 : Mg := ⟨fun _ => 0, fun _ => []⟩
def Mg.setN (m : Mg) (c : Nat) (v : Int) : Mg := ⟨fun i => if i = c then v else m.n i, m.s⟩
def Mg.setS (m : Mg) (c : Nat) (l : List Nat) : Mg := ⟨m.n, fun i => if i = c then l else m.s i⟩
/-- A part of a message: a number in as few bytes as it needs, one in a byte, a text. -/
inductive Fd where
  | var (c most : Nat)
  | small (c most : Nat)
  | text (c most : Nat)
def Fd.may (m : Mg) (used : Bool) : Fd → Bool
  | .var c most => decide (0 ≤ m.n c ∧ m.n c ≤ (if used then (most : Int) else 0) ∧ (c = 21 → m.n c = 0 ∨ 300 ≤ m.n c))
  | .small c most => decide (0 ≤ m.n c ∧ m.n c ≤ (if used then (most : Int) else 0))
  | .text c most => decide ((m.s c).length ≤ if used then most else 0)
def Fd.put (m : Mg) : Fd → List Nat
  | .var c _ => vl 9 (m.n c).toNat
  | .small c _ => fl 1 (m.n c).toNat
  | .text c _ => partL (m.s c)
/-- A number as it lies in its cell. -/
def cv (c : Nat) (v : Nat) : Int := if c = 8 ∨ c = 21 then IntKind.i64.wrap (v : Int) else (v : Int)
def Fd.get (z : Nat → Nat) (n : Nat) (m : Mg) (a b : Nat) : Fd → Mg × Nat × Nat
  | .var c most => (m.setN c (cv c (varAns z n most a b).1), (varAns z n most a b).2.1, (varAns z n most a b).2.2)
  | .small c _ => (m.setN c ((fixAns z n 1 a b).1 : Nat), (fixAns z n 1 a b).2.1, (fixAns z n 1 a b).2.2)
  | .text c most => (m.setS c (cutZ z (bytesAns z n most a b).2.1 (bytesAns z n most a b).1), (bytesAns z n most a b).2.2.1, (bytesAns z n most a b).2.2.2)
def getL (z : Nat → Nat) (n : Nat) : List Fd → Mg → Nat → Nat → Mg × Nat × Nat
  | [], m, a, b => (m, a, b)
  | f :: fs, m, a, b => getL z n fs (f.get z n m a b).1 (f.get z n m a b).2.1 (f.get z n m a b).2.2
def putL (m : Mg) : List Fd → List Nat
  | [] => []
  | f :: fs => f.put m ++ putL m fs
theorem putL_app (m : Mg) : ∀ fs gs, putL m (fs ++ gs) = putL m fs ++ putL m gs
  | [], _ => rfl
  | f :: fs, gs => by simp only [List.cons_append, putL, putL_app m fs gs, List.append_assoc]
theorem getL_app (z : Nat → Nat) (n : Nat) : ∀ fs gs m a b, getL z n (fs ++ gs) m a b = getL z n gs (getL z n fs m a b).1 (getL z n fs m a b).2.1 (getL z n fs m a b).2.2
  | [], _, _, _, _ => rfl
  | f :: fs, gs, m, a, b => by
    show getL z n (fs ++ gs) _ _ _ = _
    rw [getL_app z n fs gs]
    rfl
/-- The part of one message in another. -/
def Fd.take (m m0 : Mg) : Fd → Mg
  | .var c _ => m0.setN c (m.n c)
  | .small c _ => m0.setN c (m.n c)
  | .text c _ => m0.setS c (m.s c)
def takeL (m : Mg) : List Fd → Mg → Mg
  | [], m0 => m0
  | f :: fs, m0 => takeL m fs (f.take m m0)
theorem takeL_app (m : Mg) : ∀ fs gs m0, takeL m (fs ++ gs) m0 = takeL m gs (takeL m fs m0)
  | [], _, _ => rfl
  | f :: fs, gs, m0 => by
    show takeL m (fs ++ gs) _ = _
    rw [takeL_app m fs gs]
    rfl
/-- The cells of numbers, of texts. -/
def numC : List Fd → List Nat
  | [] => []
  | .var c _ :: fs => c :: numC fs
  | .small c _ :: fs => c :: numC fs
  | .text _ _ :: fs => numC fs
def txtC : List Fd → List Nat
  | [] => []
  | .var _ _ :: fs => txtC fs
  | .small _ _ :: fs => txtC fs
  | .text c _ :: fs => c :: txtC fs
theorem takeL_n (m : Mg) : ∀ fs m0 c, (takeL m fs m0).n c = if c ∈ numC fs then m.n c else m0.n c
  | [], m0, c => by simp [takeL, numC]
  | .var d _ :: fs, m0, c => by
    show (takeL m fs (m0.setN d (m.n d))).n c = if c ∈ d :: numC fs then m.n c else m0.n c
    rw [takeL_n m fs]
    by_cases h : c ∈ numC fs
    · rw [if_pos h, if_pos (List.mem_cons_of_mem _ h)]
    · rw [if_neg h]
      by_cases e : c = d
      · subst e; simp [Mg.setN]
      · simp [Mg.setN, e, h]
  | .small d _ :: fs, m0, c => by
    show (takeL m fs (m0.setN d (m.n d))).n c = if c ∈ d :: numC fs then m.n c else m0.n c
    rw [takeL_n m fs]
    by_cases h : c ∈ numC fs
    · rw [if_pos h, if_pos (List.mem_cons_of_mem _ h)]
    · rw [if_neg h]
      by_cases e : c = d
      · subst e; simp [Mg.setN]
      · simp [Mg.setN, e, h]
  | .text d _ :: fs, m0, c => by
    show (takeL m fs (m0.setS d (m.s d))).n c = if c ∈ numC fs then m.n c else m0.n c
    rw [takeL_n m fs]
    rfl
theorem takeL_s (m : Mg) : ∀ fs m0 c, (takeL m fs m0).s c = if c ∈ txtC fs then m.s c else m0.s c
  | [], m0, c => by simp [takeL, txtC]
  | .var d _ :: fs, m0, c => by
    show (takeL m fs (m0.setN d (m.n d))).s c = if c ∈ txtC fs then m.s c else m0.s c
    rw [takeL_s m fs]
    rfl
  | .small d _ :: fs, m0, c => by
    show (takeL m fs (m0.setN d (m.n d))).s c = if c ∈ txtC fs then m.s c else m0.s c
    rw [takeL_s m fs]
    rfl
  | .text d _ :: fs, m0, c => by
    show (takeL m fs (m0.setS d (m.s d))).s c = if c ∈ d :: txtC fs then m.s c else m0.s c
    rw [takeL_s m fs]
    by_cases h : c ∈ txtC fs
    · rw [if_pos h, if_pos (List.mem_cons_of_mem _ h)]
    · rw [if_neg h]
      by_cases e : c = d
      · subst e; simp [Mg.setS]
      · simp [Mg.setS, e, h]
/-- A part that its bytes can tell. -/
def Fd.fits (m : Mg) : Fd → Prop
  | .var c most => 0 ≤ m.n c ∧ m.n c ≤ (most : Int) ∧ most < 18446744073709551616 ∧ (c = 8 ∨ c = 21 → m.n c < 9223372036854775808)
  | .small c _ => 0 ≤ m.n c ∧ m.n c < 256
  | .text c most => (m.s c).length ≤ most ∧ (m.s c).length < 18446744073709551616
theorem cv_toNat {c : Nat} {v : Int} (h0 : 0 ≤ v) (h : c = 8 ∨ c = 21 → v < 9223372036854775808) : cv c v.toNat = v := by
  unfold cv
  split
  · rename_i hc
    have := h hc
    rw [IntKind.wrap_i64]
    omega
  · omega
theorem cv_nat {c v : Nat} (h : c = 8 ∨ c = 21 → v < 9223372036854775808) : (cv c v).toNat = v := by
  have := cv_toNat (c := c) (v := (v : Int)) (Int.natCast_nonneg v) (fun e => by have := h e; omega)
  rw [Int.toNat_natCast] at this
  rw [this, Int.toNat_natCast]
theorem get_put {z : Nat → Nat} {n a : Nat} {m m0 : Mg} (f : Fd) (hf : f.fits m) (ha : ∀ j, j < (f.put m).length → z (a + j) = (f.put m).getD j 0) (hn : a + (f.put m).length ≤ n) :
    f.get z n m0 a 0 = (f.take m m0, a + (f.put m).length, 0) := by
  cases f with
  | var c most =>
    obtain ⟨h0, h1, h2, h3⟩ := hf
    have hv := (vlook_vl (fun j => z (a + j)) (n - a) most (m.n c).toNat (by omega) (fun j hj _ => ha j hj)).1 (by have : (Fd.var c most).put m = vl 9 (m.n c).toNat := rfl; rw [this] at hn; omega) (by omega)
    show (m0.setN c (cv c (varAns z n most a 0).1), (varAns z n most a 0).2.1, (varAns z n most a 0).2.2) = _
    unfold varAns
    rw [if_neg (fun e => e rfl), hv]
    simp only
    rw [cv_toNat h0 h3]
    rfl
  | small c most =>
    obtain ⟨h0, h1⟩ := hf
    have e1 : (Fd.small c most).put m = fl 1 (m.n c).toNat := rfl
    rw [e1] at ha hn ⊢
    rw [fl_len] at hn ⊢
    have h2 : z a = (m.n c).toNat := by
      have := ha 0 (by rw [fl_len]; decide)
      rw [fl_get 1 _ 0 (by decide)] at this
      have hm : (m.n c).toNat % 256 = (m.n c).toNat := Nat.mod_eq_of_lt (by omega)
      simp only [Nat.sub_self, Nat.pow_zero, Nat.div_one, Nat.add_zero] at this
      rw [this, hm]
    show (m0.setN c ((fixAns z n 1 a 0).1 : Nat), (fixAns z n 1 a 0).2.1, (fixAns z n 1 a 0).2.2) = _
    unfold fixAns
    rw [if_neg (fun e => e rfl), if_neg (by omega)]
    have hb : be (fun j => z (a + j)) 1 = (m.n c).toNat := by show 0 * 256 + z (a + 0) = _; rw [Nat.add_zero, h2]; omega
    simp only
    rw [hb, show (((m.n c).toNat : Nat) : Int) = m.n c by omega]
    rfl
  | text c most =>
    obtain ⟨h1, h2⟩ := hf
    have e1 : (Fd.text c most).put m = vl 9 (m.s c).length ++ m.s c := rfl
    rw [e1] at ha hn ⊢
    have hlen : (vl 9 (m.s c).length ++ m.s c).length = (vl 9 (m.s c).length).length + (m.s c).length := by simp
    rw [hlen] at ha hn ⊢
    have hv := (vlook_vl (fun j => z (a + j)) (n - a) most (m.s c).length h2 (fun j hj _ => by
      show z (a + j) = _
      rw [ha j (by omega), getD_left hj])).1 (by omega) h1
    have hz : cutZ z (a + (vl 9 (m.s c).length).length) (m.s c).length = m.s c := by
      unfold cutZ
      refine List.ext_getElem (by simp) (fun j h1 h2 => ?_)
      simp only [List.getElem_map, List.getElem_range]
      rw [Nat.add_assoc, ha _ (by omega), getD_right]
      simp [List.getD, h2]
    show (m0.setS c (cutZ z (bytesAns z n most a 0).2.1 (bytesAns z n most a 0).1), (bytesAns z n most a 0).2.2.1, (bytesAns z n most a 0).2.2.2) = _
    unfold bytesAns blook
    rw [if_neg (fun e => e rfl), hv]
    simp only [ne_eq, not_true_eq_false, if_false]
    rw [if_neg (by omega)]
    simp only
    rw [hz]
    rfl
theorem getL_put {z : Nat → Nat} {n : Nat} {m : Mg} : ∀ (fs : List Fd) (m0 : Mg) (a : Nat), (∀ f ∈ fs, f.fits m) → (∀ j, j < (putL m fs).length → z (a + j) = (putL m fs).getD j 0) → a + (putL m fs).length ≤ n →
    getL z n fs m0 a 0 = (takeL m fs m0, a + (putL m fs).length, 0)
  | [], m0, a, _, _, _ => rfl
  | f :: fs, m0, a, hf, ha, hn => by
    have hlen : (putL m (f :: fs)).length = (f.put m).length + (putL m fs).length := by show (f.put m ++ putL m fs).length = _; simp
    rw [hlen] at ha hn
    have h1 := get_put (z := z) (n := n) (a := a) (m0 := m0) f (hf f (List.mem_cons_self ..)) (fun j hj => by
      rw [ha j (by omega)]; exact getD_left hj) (by omega)
    show getL z n fs (f.get z n m0 a 0).1 (f.get z n m0 a 0).2.1 (f.get z n m0 a 0).2.2 = _
    rw [h1]
    simp only
    rw [getL_put fs _ _ (fun g hg => hf g (List.mem_cons_of_mem _ hg)) (fun j hj => by
      rw [Nat.add_assoc, ha _ (by omega)]; exact getD_right) (by omega), hlen, Nat.add_assoc]
    rfl
/-- What is read without a fault is written just so. -/
def Fd.sane : Fd → Prop
  | .var c most => most < 18446744073709551616 ∧ (c = 8 ∨ c = 21 → most < 9223372036854775808)
  | .small _ _ => True
  | .text _ most => most < 18446744073709551616
theorem cutZ_cat (z : Nat → Nat) (a k l : Nat) : cutZ z a k ++ cutZ z (a + k) l = cutZ z a (k + l) := by
  unfold cutZ
  have := range_cat (fun j => z (a + j)) k l
  simp only [← Nat.add_assoc] at this
  exact this
theorem put_get {z : Nat → Nat} (hz : ∀ j, z j < 256) {n a b : Nat} {m : Mg} (hn : a ≤ n) (f : Fd) (hs : f.sane) (h : (f.get z n m a b).2.2 = 0) :
    b = 0 ∧ a ≤ (f.get z n m a b).2.1 ∧ (f.get z n m a b).2.1 ≤ n ∧ f.put (f.get z n m a b).1 = cutZ z a ((f.get z n m a b).2.1 - a) := by
  cases f with
  | var c most =>
    have h : (varAns z n most a b).2.2 = 0 := h
    show b = 0 ∧ a ≤ (varAns z n most a b).2.1 ∧ (varAns z n most a b).2.1 ≤ n ∧ vl 9 ((m.setN c (cv c (varAns z n most a b).1)).n c).toNat = cutZ z a ((varAns z n most a b).2.1 - a)
    unfold varAns at h ⊢
    by_cases hb : b ≠ 0
    · rw [if_pos hb] at h; exact absurd h hb
    · rw [if_neg hb] at h ⊢
      simp only at h ⊢
      obtain ⟨h1, h2, h3, h4⟩ := vlook_size _ _ _ h
      have hr := vl_read (fun j => z (a + j)) (fun j => hz _) (n - a) most h
      refine ⟨by omega, by omega, by omega, ?_⟩
      have e : ((m.setN c (cv c (vlook (fun j => z (a + j)) (n - a) most).1)).n c).toNat = (vlook (fun j => z (a + j)) (n - a) most).1 := by
        have hc : (m.setN c (cv c (vlook (fun j => z (a + j)) (n - a) most).1)).n c = cv c (vlook (fun j => z (a + j)) (n - a) most).1 := by simp [Mg.setN]
        rw [hc]
        exact cv_nat (fun e => Nat.lt_of_le_of_lt h4 (hs.2 e))
      rw [e, hr, Nat.add_sub_cancel_left]
      rfl
  | small c most =>
    have h : (fixAns z n 1 a b).2.2 = 0 := h
    show b = 0 ∧ a ≤ (fixAns z n 1 a b).2.1 ∧ (fixAns z n 1 a b).2.1 ≤ n ∧ fl 1 ((m.setN c ((fixAns z n 1 a b).1 : Nat)).n c).toNat = cutZ z a ((fixAns z n 1 a b).2.1 - a)
    unfold fixAns at h ⊢
    by_cases hb : b ≠ 0
    · rw [if_pos hb] at h; exact absurd h hb
    · rw [if_neg hb] at h ⊢
      by_cases h1 : n - a < 1
      · rw [if_pos h1] at h; exact absurd (show (10 : Nat) = 0 from h) (by decide)
      · rw [if_neg h1]
        simp only
        refine ⟨by omega, by omega, by omega, ?_⟩
        have hf := fl_be (fun j => z (a + j)) (fun j => hz _) 1
        have e : ((m.setN c ((be (fun j => z (a + j)) 1 : Nat) : Int)).n c).toNat = be (fun j => z (a + j)) 1 := by simp [Mg.setN]
        rw [e, hf, Nat.add_sub_cancel_left]
        rfl
  | text c most =>
    have h : (bytesAns z n most a b).2.2.2 = 0 := h
    show b = 0 ∧ a ≤ (bytesAns z n most a b).2.2.1 ∧ (bytesAns z n most a b).2.2.1 ≤ n ∧ partL ((m.setS c (cutZ z (bytesAns z n most a b).2.1 (bytesAns z n most a b).1)).s c) = cutZ z a ((bytesAns z n most a b).2.2.1 - a)
    have e : (m.setS c (cutZ z (bytesAns z n most a b).2.1 (bytesAns z n most a b).1)).s c = cutZ z (bytesAns z n most a b).2.1 (bytesAns z n most a b).1 := by simp [Mg.setS]
    rw [e]
    unfold bytesAns at h ⊢
    by_cases hb : b ≠ 0
    · rw [if_pos hb] at h; exact absurd h hb
    · rw [if_neg hb] at h ⊢
      simp only at h ⊢
      have hbs := blook_size _ _ _ h
      unfold blook at h hbs ⊢
      by_cases hv : (vlook (fun j => z (a + j)) (n - a) most).2.2 ≠ 0
      · rw [if_pos hv] at h; exact absurd h hv
      · rw [if_neg hv] at h hbs ⊢
        have hv0 : (vlook (fun j => z (a + j)) (n - a) most).2.2 = 0 := by omega
        have hr := vl_read (fun j => z (a + j)) (fun j => hz _) (n - a) most hv0
        generalize vlook (fun j => z (a + j)) (n - a) most = V at *
        by_cases hl : n - a - V.2.1 < V.1
        · rw [if_pos hl] at h; exact absurd (show (10 : Nat) = 0 from h) (by decide)
        · rw [if_neg hl] at hbs ⊢
          simp only at hbs ⊢
          refine ⟨by omega, by omega, by omega, ?_⟩
          unfold partL
          rw [cutZ_len, hr, show a + (V.2.1 + V.1) - a = V.2.1 + V.1 by omega]
          exact cutZ_cat z a V.2.1 V.1
theorem get_n (z : Nat → Nat) (n : Nat) (f : Fd) (m : Mg) (a b c : Nat) (h : c ∉ numC [f]) : (f.get z n m a b).1.n c = m.n c := by
  cases f with
  | var d _ => have h : c ≠ d := by simpa [numC] using h
               simp [Fd.get, Mg.setN, h]
  | small d _ => have h : c ≠ d := by simpa [numC] using h
                 simp [Fd.get, Mg.setN, h]
  | text d _ => rfl
theorem get_s (z : Nat → Nat) (n : Nat) (f : Fd) (m : Mg) (a b c : Nat) (h : c ∉ txtC [f]) : (f.get z n m a b).1.s c = m.s c := by
  cases f with
  | var d _ => rfl
  | small d _ => rfl
  | text d _ => have h : c ≠ d := by simpa [txtC] using h
                simp [Fd.get, Mg.setS, h]
theorem numC_cons (f : Fd) (fs : List Fd) : numC (f :: fs) = numC [f] ++ numC fs := by cases f <;> rfl
theorem txtC_cons (f : Fd) (fs : List Fd) : txtC (f :: fs) = txtC [f] ++ txtC fs := by cases f <;> rfl
theorem getL_n (z : Nat → Nat) (n : Nat) : ∀ (fs : List Fd) (m : Mg) (a b c : Nat), c ∉ numC fs → (getL z n fs m a b).1.n c = m.n c
  | [], _, _, _, _, _ => rfl
  | f :: fs, m, a, b, c, h => by
    rw [numC_cons, List.mem_append] at h
    show (getL z n fs (f.get z n m a b).1 _ _).1.n c = _
    rw [getL_n z n fs _ _ _ _ (fun e => h (.inr e)), get_n z n f m a b c (fun e => h (.inl e))]
theorem getL_s (z : Nat → Nat) (n : Nat) : ∀ (fs : List Fd) (m : Mg) (a b c : Nat), c ∉ txtC fs → (getL z n fs m a b).1.s c = m.s c
  | [], _, _, _, _, _ => rfl
  | f :: fs, m, a, b, c, h => by
    rw [txtC_cons, List.mem_append] at h
    show (getL z n fs (f.get z n m a b).1 _ _).1.s c = _
    rw [getL_s z n fs _ _ _ _ (fun e => h (.inr e)), get_s z n f m a b c (fun e => h (.inl e))]
theorem put_congr {m m' : Mg} (f : Fd) (h1 : ∀ c ∈ numC [f], m.n c = m'.n c) (h2 : ∀ c ∈ txtC [f], m.s c = m'.s c) : f.put m = f.put m' := by
  cases f with
  | var c _ => have : m.n c = m'.n c := h1 c (by simp [numC])
               simp [Fd.put, this]
  | small c _ => have : m.n c = m'.n c := h1 c (by simp [numC])
                 simp [Fd.put, this]
  | text c _ => have : m.s c = m'.s c := h2 c (by simp [txtC])
                simp [Fd.put, this]
theorem putL_get {z : Nat → Nat} (hz : ∀ j, z j < 256) {n : Nat} : ∀ (fs : List Fd) (m : Mg) (a b : Nat), a ≤ n → (∀ f ∈ fs, f.sane) → (numC fs).Nodup → (txtC fs).Nodup → (getL z n fs m a b).2.2 = 0 →
    b = 0 ∧ a ≤ (getL z n fs m a b).2.1 ∧ (getL z n fs m a b).2.1 ≤ n ∧ putL (getL z n fs m a b).1 fs = cutZ z a ((getL z n fs m a b).2.1 - a)
  | [], m, a, b, hn, _, _, _, h => ⟨h, Nat.le_refl _, hn, by show [] = cutZ z a (a - a); rw [Nat.sub_self]; rfl⟩
  | f :: fs, m, a, b, hn, hs, d1, d2, h => by
    rw [numC_cons] at d1
    rw [txtC_cons] at d2
    have e1 := List.nodup_append.1 d1
    have e2 := List.nodup_append.1 d2
    have ih : ∀ q, q = f.get z n m a b → q.2.2 = 0 ∧ q.2.1 ≤ (getL z n fs q.1 q.2.1 q.2.2).2.1 ∧ (getL z n fs q.1 q.2.1 q.2.2).2.1 ≤ n ∧ putL (getL z n fs q.1 q.2.1 q.2.2).1 fs = cutZ z q.2.1 ((getL z n fs q.1 q.2.1 q.2.2).2.1 - q.2.1) ∨ ¬ q.2.1 ≤ n := fun q hq => by
      by_cases hqn : q.2.1 ≤ n
      · subst hq
        exact .inl (putL_get hz fs _ _ _ hqn (fun g hg => hs g (List.mem_cons_of_mem _ hg)) e1.2.1 e2.2.1 h)
      · exact .inr hqn
    have hle : (f.get z n m a b).2.1 ≤ n := by
      cases f with
      | var c most =>
        show (varAns z n most a b).2.1 ≤ n
        unfold varAns
        split
        · exact hn
        · rename_i hb
          simp only
          by_cases hv : (vlook (fun j => z (a + j)) (n - a) most).2.2 = 0
          · have := (vlook_size _ _ _ hv).1; omega
          · have := (vlook_bad _ _ _ hv).2; omega
      | small c most =>
        show (fixAns z n 1 a b).2.1 ≤ n
        unfold fixAns
        split
        · exact hn
        · split
          · exact hn
          · simp only; omega
      | text c most =>
        show (bytesAns z n most a b).2.2.1 ≤ n
        unfold bytesAns
        split
        · exact hn
        · simp only
          by_cases hv : (blook (fun j => z (a + j)) (n - a) most).2.2 = 0
          · have := blook_size _ _ _ hv; omega
          · have := (blook_bad _ _ _ hv).2; omega
    rcases ih _ rfl with ⟨i0, i1, i2, i3⟩ | hq
    · obtain ⟨g0, g1, g2, g3⟩ := put_get hz hn f (hs f (List.mem_cons_self ..)) i0
      refine ⟨g0, Nat.le_trans g1 i1, i2, ?_⟩
      show f.put (getL z n fs _ _ _).1 ++ putL (getL z n fs _ _ _).1 fs = cutZ z a ((getL z n fs _ _ _).2.1 - a)
      rw [i3, put_congr (m' := (f.get z n m a b).1) f (fun c hc => getL_n z n fs _ _ _ _ (fun e => e1.2.2 c hc c e rfl)) (fun c hc => getL_s z n fs _ _ _ _ (fun e => e2.2.2 c hc c e rfl)), g3]
      have := cutZ_cat z a ((f.get z n m a b).2.1 - a) ((getL z n fs (f.get z n m a b).1 (f.get z n m a b).2.1 (f.get z n m a b).2.2).2.1 - (f.get z n m a b).2.1)
      rw [show a + ((f.get z n m a b).2.1 - a) = (f.get z n m a b).2.1 by omega] at this
      rw [this]
      congr 1
      omega
    · exact absurd hle hq
end Go.Proofs.YtonpmabdjngdcaaGreatDoor

/- The fields of messages; the program's and the document's answers are the same. -/
namespace Go.Proofs.YtonpmabdjngdcaaGreatDoor
open Go.RowKit

def fds : Nat → List Fd
  | 0 => [.var 4 1099511627776]
  | 1 => [.var 5 1099511627776, .var 6 1099511627776]
  | 2 => [.var 7 1099511627776]
  | 3 => [.var 8 1025]
  | 4 => [.var 9 1099511627776]
  | 5 => [.text 10 16384]
  | 6 => [.small 11 7]
  | 7 => [.var 12 1099511627776]
  | 8 => [.text 13 64]
  | 9 => [.text 14 64]
  | 10 => [.var 15 9007199254740992]
  | 11 => [.var 16 1099511627776, .var 17 1099511627776]
  | 12 => [.small 18 3]
  | 13 => [.small 19 7]
  | 14 => [.small 20 4]
  | 15 => [.var 21 307]
  | _ => []
def usesT : Nat → Nat
  | 1 => 1 | 2 => 35 | 3 => 17 | 4 => 42 | 5 => 2 | 6 => 13 | 7 => 5 | 8 => 1472 | 9 => 192 | 10 => 16256 | 11 => 52224 | _ => 0
def usedB (k i : Nat) : Bool := usesT k / 2 ^ i % 2 == 1
/-- The parts that a kind uses, of the first fields. -/
def fdsU (k : Nat) : Nat → List Fd
  | 0 => []
  | i + 1 => fdsU k i ++ (if usedB k i then fds i else [])
def fdsK (k : Nat) : List Fd := fdsU k 16
def hds : List Fd := [.small 0 11, .small 1 8, .small 2 8, .small 3 7]
def headB (m : Mg) : Bool := decide (0 ≤ m.n 1 ∧ m.n 1 < 9 ∧ 0 ≤ m.n 2 ∧ m.n 2 < 9 ∧ 0 ≤ m.n 3 ∧ m.n 3 < 8)
def mayU (m : Mg) (k : Nat) : Nat → Bool
  | 0 => true
  | i + 1 => mayU m k i && (fds i).all (fun f => f.may m (usedB k i))
def mayA (m : Mg) : Nat → Bool
  | 0 => true
  | i + 1 => mayA m i && (fds i).all (fun f => f.may m true)
def mayM (m : Mg) : Bool := headB m && mayU m (m.n 0).toNat 16
def kindB (m : Mg) : Bool := decide (1 ≤ m.n 0 ∧ m.n 0 ≤ 11)
def bodyG (m : Mg) : List Nat := putL m hds ++ putL m (fdsK (m.n 0).toNat)
def sealG (l : List Nat) : List Nat := l ++ fl 4 (Crc.sum l)
/-- Encode: the error, the bytes. -/
def encM (m : Mg) : Nat × List Nat := if kindB m = false then (80, []) else if mayM m = false then (83, []) else (0, sealG (bodyG m))
def headG (z : Nat → Nat) (n : Nat) : Mg × Nat × Nat := getL z n hds mg0 0 0
def partG (z : Nat → Nat) (n : Nat) : Mg × Nat × Nat := getL z n (fdsK ((headG z n).1.n 0).toNat) (headG z n).1 (headG z n).2.1 (headG z n).2.2
def readG (z : Nat → Nat) (n : Nat) : Option Mg :=
  if kindB (headG z n).1 = false then none else if (partG z n).2.2 = 0 ∧ (partG z n).2.1 = n ∧ mayM (partG z n).1 = true then some (partG z n).1 else none
/-- Decode: the error, the message. -/
def decM (z : Nat → Nat) (n : Nat) : Nat × Mg :=
  if n < 4 ∨ 17000 < n then (81, mg0) else if be (fun j => z (n - 4 + j)) 4 ≠ Crc.sum (cutZ z 0 (n - 4)) then (82, mg0) else match readG z (n - 4) with
    | none => (81, mg0)
    | some m => (0, m)
/-- The document's. -/
def wide (L : Nat) : Fd → Fd
  | .var c _ => .var c 18446744073709551615
  | .small c q => .small c q
  | .text c _ => .text c L
def lookG (z : Nat → Nat) (n : Nat) : Mg := (getL z n ((fdsK ((headG z n).1.n 0).toNat).map (wide n)) (headG z n).1 (headG z n).2.1 (headG z n).2.2).1
def onlyG (m : Mg) : Mg := takeL m (fdsK (m.n 0).toNat) (takeL m hds mg0)
def eqG (a b : Mg) : Bool := (List.range 22).all fun c => decide (a.n c = b.n c) && decide (a.s c = b.s c)
def encR (m : Mg) : Nat × List Nat := if kindB m = false then (80, []) else if eqG m (onlyG m) = false ∨ (headB m && mayA m 16) = false then (83, []) else (0, sealG (bodyG m))
def decR (z : Nat → Nat) (n : Nat) : Nat × Mg :=
  if n < 4 ∨ 17000 < n then (81, mg0) else if sealG (cutZ z 0 (n - 4)) ≠ cutZ z 0 n then (82, mg0) else
    if (encM (lookG z (n - 4))).1 ≠ 0 ∨ (encM (lookG z (n - 4))).2 ≠ cutZ z 0 n then (81, mg0) else (0, lookG z (n - 4))
structure Mg.wf (m : Mg) : Prop where
  n : ∀ c, c = 10 ∨ c = 13 ∨ c = 14 ∨ 22 ≤ c → m.n c = 0
  s : ∀ c, c ≠ 10 → c ≠ 13 → c ≠ 14 → m.s c = []

/-- A part as a field has it: its cell, its bound. -/
def Fd.good : Fd → Prop
  | .var c most => 4 ≤ c ∧ c < 22 ∧ c ≠ 10 ∧ c ≠ 13 ∧ c ≠ 14 ∧ most < 18446744073709551616 ∧ (c = 8 ∨ c = 21 → most < 9223372036854775808)
  | .small c most => 4 ≤ c ∧ c < 22 ∧ c ≠ 10 ∧ c ≠ 13 ∧ c ≠ 14 ∧ most < 256
  | .text c most => (c = 10 ∨ c = 13 ∨ c = 14) ∧ most < 18446744073709551616
theorem fds_good : ∀ i, ∀ f ∈ fds i, f.good := by
  intro i f hf
  match i, hf with
  | 0, hf => simp only [fds, List.mem_singleton] at hf; subst hf; simp [Fd.good]
  | 1, hf => simp only [fds, List.mem_cons, List.not_mem_nil, or_false] at hf; rcases hf with rfl | rfl <;> simp [Fd.good]
  | 2, hf => simp only [fds, List.mem_singleton] at hf; subst hf; simp [Fd.good]
  | 3, hf => simp only [fds, List.mem_singleton] at hf; subst hf; simp [Fd.good]
  | 4, hf => simp only [fds, List.mem_singleton] at hf; subst hf; simp [Fd.good]
  | 5, hf => simp only [fds, List.mem_singleton] at hf; subst hf; simp [Fd.good]
  | 6, hf => simp only [fds, List.mem_singleton] at hf; subst hf; simp [Fd.good]
  | 7, hf => simp only [fds, List.mem_singleton] at hf; subst hf; simp [Fd.good]
  | 8, hf => simp only [fds, List.mem_singleton] at hf; subst hf; simp [Fd.good]
  | 9, hf => simp only [fds, List.mem_singleton] at hf; subst hf; simp [Fd.good]
  | 10, hf => simp only [fds, List.mem_singleton] at hf; subst hf; simp [Fd.good]
  | 11, hf => simp only [fds, List.mem_cons, List.not_mem_nil, or_false] at hf; rcases hf with rfl | rfl <;> simp [Fd.good]
  | 12, hf => simp only [fds, List.mem_singleton] at hf; subst hf; simp [Fd.good]
  | 13, hf => simp only [fds, List.mem_singleton] at hf; subst hf; simp [Fd.good]
  | 14, hf => simp only [fds, List.mem_singleton] at hf; subst hf; simp [Fd.good]
  | 15, hf => simp only [fds, List.mem_singleton] at hf; subst hf; simp [Fd.good]
  | _ + 16, hf => simp [fds] at hf
theorem mem_fdsU {k : Nat} {f : Fd} : ∀ {i}, f ∈ fdsU k i → ∃ j, j < i ∧ usedB k j = true ∧ f ∈ fds j
  | 0, h => absurd h (List.not_mem_nil)
  | i + 1, h => by
    rcases List.mem_append.1 h with h | h
    · obtain ⟨j, h1, h2⟩ := mem_fdsU h
      exact ⟨j, by omega, h2⟩
    · by_cases hu : usedB k i = true
      · rw [if_pos hu] at h; exact ⟨i, by omega, hu, h⟩
      · rw [if_neg hu] at h; exact absurd h (List.not_mem_nil)
theorem fdsK_good {k : Nat} {f : Fd} (h : f ∈ fdsK k) : f.good := by
  obtain ⟨j, _, _, hf⟩ := mem_fdsU h
  exact fds_good j f hf
theorem Fd.good.sane {f : Fd} (h : f.good) : f.sane := by
  cases f with
  | var c most => exact ⟨h.2.2.2.2.2.1, h.2.2.2.2.2.2⟩
  | small c most => trivial
  | text c most => exact h.2
theorem Fd.good.fits {f : Fd} (h : f.good) {m : Mg} (hm : f.may m true = true) : f.fits m := by
  cases f with
  | var c most =>
    have hm := of_decide_eq_true hm
    simp only [if_true] at hm
    exact ⟨hm.1, hm.2.1, h.2.2.2.2.2.1, fun e => by have := h.2.2.2.2.2.2 e; omega⟩
  | small c most =>
    have hm := of_decide_eq_true hm
    simp only [if_true] at hm
    have : most < 256 := h.2.2.2.2.2
    exact ⟨hm.1, by omega⟩
  | text c most =>
    have hm := of_decide_eq_true hm
    simp only [if_true] at hm
    have : most < 18446744073709551616 := h.2
    exact ⟨hm, by omega⟩
theorem numC_mem {c : Nat} : ∀ {fs : List Fd}, c ∈ numC fs → ∃ f ∈ fs, c ∈ numC [f]
  | f :: fs, h => by
    rw [numC_cons, List.mem_append] at h
    rcases h with h | h
    · exact ⟨f, List.mem_cons_self .., h⟩
    · obtain ⟨g, hg, hc⟩ := numC_mem h
      exact ⟨g, List.mem_cons_of_mem _ hg, hc⟩
theorem txtC_mem {c : Nat} : ∀ {fs : List Fd}, c ∈ txtC fs → ∃ f ∈ fs, c ∈ txtC [f]
  | f :: fs, h => by
    rw [txtC_cons, List.mem_append] at h
    rcases h with h | h
    · exact ⟨f, List.mem_cons_self .., h⟩
    · obtain ⟨g, hg, hc⟩ := txtC_mem h
      exact ⟨g, List.mem_cons_of_mem _ hg, hc⟩
theorem Fd.good.num {f : Fd} (h : f.good) {c : Nat} (hc : c ∈ numC [f]) : 4 ≤ c ∧ c < 22 ∧ c ≠ 10 ∧ c ≠ 13 ∧ c ≠ 14 := by
  cases f with
  | var d most => obtain rfl : c = d := by simpa [numC] using hc
                  exact ⟨h.1, h.2.1, h.2.2.1, h.2.2.2.1, h.2.2.2.2.1⟩
  | small d most => obtain rfl : c = d := by simpa [numC] using hc
                    exact ⟨h.1, h.2.1, h.2.2.1, h.2.2.2.1, h.2.2.2.2.1⟩
  | text d most => exact absurd hc (List.not_mem_nil)
theorem Fd.good.txt {f : Fd} (h : f.good) {c : Nat} (hc : c ∈ txtC [f]) : c = 10 ∨ c = 13 ∨ c = 14 := by
  cases f with
  | var d most => exact absurd hc (List.not_mem_nil)
  | small d most => exact absurd hc (List.not_mem_nil)
  | text d most => obtain rfl : c = d := by simpa [txtC] using hc
                   exact h.1
theorem fdsK_num {k c : Nat} (h : c ∈ numC (fdsK k)) : 4 ≤ c ∧ c < 22 ∧ c ≠ 10 ∧ c ≠ 13 ∧ c ≠ 14 := by
  obtain ⟨f, hf, hc⟩ := numC_mem h
  exact (fdsK_good hf).num hc
theorem fdsK_txt {k c : Nat} (h : c ∈ txtC (fdsK k)) : c = 10 ∨ c = 13 ∨ c = 14 := by
  obtain ⟨f, hf, hc⟩ := txtC_mem h
  exact (fdsK_good hf).txt hc
theorem mayU_iff (m : Mg) (k : Nat) : ∀ i, mayU m k i = true ↔ ∀ j, j < i → ∀ f ∈ fds j, f.may m (usedB k j) = true
  | 0 => by simp [mayU]
  | i + 1 => by
    show (mayU m k i && (fds i).all (fun f => f.may m (usedB k i))) = true ↔ _
    rw [Bool.and_eq_true, mayU_iff m k i, List.all_eq_true]
    refine ⟨fun ⟨h1, h2⟩ j hj f hf => ?_, fun h => ⟨fun j hj => h j (by omega), fun f hf => h i (by omega) f hf⟩⟩
    by_cases e : j = i
    · subst e; exact h2 f hf
    · exact h1 j (by omega) f hf
theorem mayA_iff (m : Mg) : ∀ i, mayA m i = true ↔ ∀ j, j < i → ∀ f ∈ fds j, f.may m true = true
  | 0 => by simp [mayA]
  | i + 1 => by
    show (mayA m i && (fds i).all (fun f => f.may m true)) = true ↔ _
    rw [Bool.and_eq_true, mayA_iff m i, List.all_eq_true]
    refine ⟨fun ⟨h1, h2⟩ j hj f hf => ?_, fun h => ⟨fun j hj => h j (by omega), fun f hf => h i (by omega) f hf⟩⟩
    by_cases e : j = i
    · subst e; exact h2 f hf
    · exact h1 j (by omega) f hf
theorem may_weak {f : Fd} {m : Mg} {b : Bool} (h : f.may m b = true) : f.may m true = true := by
  cases b with
  | true => exact h
  | false =>
    cases f with
    | var c most =>
      have h := of_decide_eq_true h
      refine decide_eq_true ⟨h.1, ?_, h.2.2⟩
      have := h.2.1
      simp only [if_true] at *
      simp at this
      omega
    | small c most =>
      have h := of_decide_eq_true h
      refine decide_eq_true ⟨h.1, ?_⟩
      have := h.2
      simp only [if_true] at *
      simp at this
      omega
    | text c most =>
      have h := of_decide_eq_true h
      refine decide_eq_true ?_
      simp at h
      simp [h]
theorem may_zero_n {f : Fd} {m : Mg} {c : Nat} (h : f.may m false = true) (hc : c ∈ numC [f]) : m.n c = 0 := by
  cases f with
  | var d most => obtain rfl : c = d := by simpa [numC] using hc
                  have h := of_decide_eq_true h
                  simp at h
                  omega
  | small d most => obtain rfl : c = d := by simpa [numC] using hc
                    have h := of_decide_eq_true h
                    simp at h
                    omega
  | text d most => exact absurd hc (List.not_mem_nil)
theorem may_zero_s {f : Fd} {m : Mg} {c : Nat} (h : f.may m false = true) (hc : c ∈ txtC [f]) : m.s c = [] := by
  cases f with
  | var d most => exact absurd hc (List.not_mem_nil)
  | small d most => exact absurd hc (List.not_mem_nil)
  | text d most => obtain rfl : c = d := by simpa [txtC] using hc
                   have h := of_decide_eq_true h
                   simpa using h
theorem zero_may {f : Fd} {m : Mg} (h1 : ∀ c ∈ numC [f], m.n c = 0) (h2 : ∀ c ∈ txtC [f], m.s c = []) : f.may m false = true := by
  cases f with
  | var c most =>
    have := h1 c (by simp [numC])
    exact decide_eq_true ⟨by omega, by simp [this], fun _ => .inl this⟩
  | small c most =>
    have := h1 c (by simp [numC])
    exact decide_eq_true ⟨by omega, by simp [this]⟩
  | text c most =>
    have := h2 c (by simp [txtC])
    exact decide_eq_true (by simp [this])
/-- The field of a cell. -/
def fieldC : Nat → Nat
  | 4 => 0 | 5 => 1 | 6 => 1 | 7 => 2 | 8 => 3 | 9 => 4 | 10 => 5 | 11 => 6 | 12 => 7 | 13 => 8 | 14 => 9 | 15 => 10 | 16 => 11 | 17 => 11 | 18 => 12 | 19 => 13 | 20 => 14 | 21 => 15 | _ => 16
theorem field_n : ∀ k : Fin 12, ∀ c : Fin 22, 4 ≤ c.val → c.val ≠ 10 → c.val ≠ 13 → c.val ≠ 14 → fieldC c.val < 16 ∧ c.val ∈ numC (fds (fieldC c.val)) ∧ (c.val ∈ numC (fdsK k.val) ↔ usedB k.val (fieldC c.val) = true) := by decide +kernel
theorem field_s : ∀ k : Fin 12, ∀ c : Fin 22, c.val = 10 ∨ c.val = 13 ∨ c.val = 14 → fieldC c.val < 16 ∧ c.val ∈ txtC (fds (fieldC c.val)) ∧ (c.val ∈ txtC (fdsK k.val) ↔ usedB k.val (fieldC c.val) = true) := by decide +kernel
theorem field_back : ∀ j : Fin 16, (∀ c ∈ numC (fds j.val), fieldC c = j.val) ∧ (∀ c ∈ txtC (fds j.val), fieldC c = j.val) := by decide +kernel
theorem fdsK_nodup : ∀ k : Fin 12, (numC (fdsK k.val)).Nodup ∧ (txtC (fdsK k.val)).Nodup := by decide +kernel
theorem numC_sub {f : Fd} {fs : List Fd} (hf : f ∈ fs) {c : Nat} (h : c ∈ numC [f]) : c ∈ numC fs := by
  induction fs with
  | nil => exact absurd hf (List.not_mem_nil)
  | cons g fs ih =>
    rw [numC_cons, List.mem_append]
    rcases List.mem_cons.1 hf with rfl | hf
    · exact .inl h
    · exact .inr (ih hf)
theorem txtC_sub {f : Fd} {fs : List Fd} (hf : f ∈ fs) {c : Nat} (h : c ∈ txtC [f]) : c ∈ txtC fs := by
  induction fs with
  | nil => exact absurd hf (List.not_mem_nil)
  | cons g fs ih =>
    rw [txtC_cons, List.mem_append]
    rcases List.mem_cons.1 hf with rfl | hf
    · exact .inl h
    · exact .inr (ih hf)
theorem Mg.ext' {a b : Mg} (h1 : ∀ c, a.n c = b.n c) (h2 : ∀ c, a.s c = b.s c) : a = b := by
  obtain ⟨n1, s1⟩ := a
  obtain ⟨n2, s2⟩ := b
  have e1 : n1 = n2 := funext h1
  have e2 : s1 = s2 := funext h2
  rw [e1, e2]
theorem hds_num (c : Nat) : c ∈ numC hds ↔ c < 4 := by
  show c ∈ [0, 1, 2, 3] ↔ _
  simp
  omega
theorem only_n (m : Mg) (c : Nat) : (onlyG m).n c = if c ∈ numC (fdsK (m.n 0).toNat) then m.n c else if c < 4 then m.n c else 0 := by
  unfold onlyG
  rw [takeL_n, takeL_n]
  simp only [hds_num]
  rfl
theorem only_s (m : Mg) (c : Nat) : (onlyG m).s c = if c ∈ txtC (fdsK (m.n 0).toNat) then m.s c else [] := by
  unfold onlyG
  rw [takeL_s, takeL_s]
  simp only [show txtC hds = [] from rfl, List.not_mem_nil, if_false]
  rfl
theorem only_same {m : Mg} (hk : kindB m = true) (hw : m.wf) (hm : mayU m (m.n 0).toNat 16 = true) : onlyG m = m := by
  have hk := of_decide_eq_true hk
  have hm := (mayU_iff _ _ _).1 hm
  have hk12 : (m.n 0).toNat < 12 := by omega
  refine Mg.ext' (fun c => ?_) (fun c => ?_)
  · rw [only_n]
    by_cases h1 : c ∈ numC (fdsK (m.n 0).toNat)
    · rw [if_pos h1]
    · rw [if_neg h1]
      by_cases h4 : c < 4
      · rw [if_pos h4]
      · rw [if_neg h4]
        by_cases hc : c = 10 ∨ c = 13 ∨ c = 14 ∨ 22 ≤ c
        · exact (hw.n c hc).symm
        · obtain ⟨f1, f2, f3⟩ := field_n ⟨_, hk12⟩ ⟨c, by omega⟩ (by show 4 ≤ c; omega) (by show c ≠ 10; omega) (by show c ≠ 13; omega) (by show c ≠ 14; omega)
          have hu : usedB (m.n 0).toNat (fieldC c) = false := by
            cases hu : usedB (m.n 0).toNat (fieldC c) with
            | false => rfl
            | true => exact absurd (f3.2 hu) h1
          obtain ⟨f, hf, hcf⟩ := numC_mem f2
          have := hm _ f1 f hf
          have hu' : usedB (m.n 0).toNat (fieldC (⟨c, by omega⟩ : Fin 22).val) = false := hu
          rw [hu'] at this
          exact (may_zero_n this hcf).symm
  · rw [only_s]
    by_cases h1 : c ∈ txtC (fdsK (m.n 0).toNat)
    · rw [if_pos h1]
    · rw [if_neg h1]
      by_cases hc : c = 10 ∨ c = 13 ∨ c = 14
      · obtain ⟨f1, f2, f3⟩ := field_s ⟨_, hk12⟩ ⟨c, by omega⟩ hc
        have hu : usedB (m.n 0).toNat (fieldC c) = false := by
          cases hu : usedB (m.n 0).toNat (fieldC c) with
          | false => rfl
          | true => exact absurd (f3.2 hu) h1
        obtain ⟨f, hf, hcf⟩ := txtC_mem f2
        have := hm _ f1 f hf
        have hu' : usedB (m.n 0).toNat (fieldC (⟨c, by omega⟩ : Fin 22).val) = false := hu
        rw [hu'] at this
        exact (may_zero_s this hcf).symm
      · exact (hw.s c (by omega) (by omega) (by omega)).symm
theorem eqG_iff (a b : Mg) : eqG a b = true ↔ ∀ c, c < 22 → a.n c = b.n c ∧ a.s c = b.s c := by
  unfold eqG
  rw [List.all_eq_true]
  refine ⟨fun h c hc => ?_, fun h c hc => ?_⟩
  · have := h c (List.mem_range.2 hc)
    simpa using this
  · simpa using h c (List.mem_range.1 hc)
theorem eqG_refl (a : Mg) : eqG a a = true := (eqG_iff a a).2 fun _ _ => ⟨rfl, rfl⟩
theorem may_same {m : Mg} (hk : kindB m = true) (hw : m.wf) : (mayM m = true) ↔ (eqG m (onlyG m) = true ∧ (headB m && mayA m 16) = true) := by
  unfold mayM
  rw [Bool.and_eq_true, Bool.and_eq_true]
  constructor
  · rintro ⟨h1, h2⟩
    refine ⟨by rw [only_same hk hw h2]; exact eqG_refl m, h1, (mayA_iff _ _).2 fun j hj f hf => may_weak ((mayU_iff _ _ _).1 h2 j hj f hf)⟩
  · rintro ⟨h0, h1, h2⟩
    have h0 := (eqG_iff _ _).1 h0
    have h2 := (mayA_iff _ _).1 h2
    have hk := of_decide_eq_true hk
    have hk12 : (m.n 0).toNat < 12 := by omega
    refine ⟨h1, (mayU_iff _ _ _).2 fun j hj f hf => ?_⟩
    cases hu : usedB (m.n 0).toNat j with
    | true => exact h2 j hj f hf
    | false =>
      have hg := fds_good j f hf
      refine zero_may (fun c hc => ?_) (fun c hc => ?_)
      · obtain ⟨g1, g2, g3, g4, g5⟩ := hg.num hc
        have e : fieldC c = j := (field_back ⟨j, hj⟩).1 c (numC_sub hf hc)
        obtain ⟨_, _, f3⟩ := field_n ⟨_, hk12⟩ ⟨c, g2⟩ g1 g3 g4 g5
        have := (h0 c g2).1
        rw [only_n, if_neg (fun h => by have := f3.1 h; rw [show fieldC (⟨c, g2⟩ : Fin 22).val = j from e, hu] at this; exact absurd this (by decide)), if_neg (by omega)] at this
        exact this
      · have g := hg.txt hc
        have e : fieldC c = j := (field_back ⟨j, hj⟩).2 c (txtC_sub hf hc)
        have g2 : c < 22 := by omega
        obtain ⟨_, _, f3⟩ := field_s ⟨_, hk12⟩ ⟨c, g2⟩ g
        have := (h0 c g2).2
        rw [only_s, if_neg (fun h => by have := f3.1 h; rw [show fieldC (⟨c, g2⟩ : Fin 22).val = j from e, hu] at this; exact absurd this (by decide))] at this
        exact this
/-- ENCODE: the document's answer is the program's. -/
theorem encR_eq {m : Mg} (hw : m.wf) : encR m = encM m := by
  unfold encR encM
  by_cases hk : kindB m = false
  · rw [if_pos hk, if_pos hk]
  · rw [if_neg hk, if_neg hk]
    have := may_same (Bool.of_not_eq_false hk) hw
    by_cases hm : mayM m = false
    · rw [if_pos hm, if_pos ?_]
      by_cases h1 : eqG m (onlyG m) = false
      · exact .inl h1
      · refine .inr ?_
        by_cases h2 : (headB m && mayA m 16) = false
        · exact h2
        · rw [this.2 ⟨Bool.of_not_eq_false h1, Bool.of_not_eq_false h2⟩] at hm; exact absurd hm (by decide)
    · rw [if_neg hm, if_neg ?_]
      obtain ⟨h1, h2⟩ := this.1 (Bool.of_not_eq_false hm)
      rw [h1, h2]
      simp
end Go.Proofs.YtonpmabdjngdcaaGreatDoor

/- Decode: the document's answer is the program's. -/
namespace Go.Proofs.YtonpmabdjngdcaaGreatDoor
open Go.RowKit

theorem cutZ_get (z : Nat → Nat) (a k j : Nat) (h : j < k) : (cutZ z a k).getD j 0 = z (a + j) := by
  unfold cutZ
  exact getD_range_map (fun j => z (a + j)) k j h
theorem wide_put (L : Nat) (m : Mg) : ∀ fs, putL m (fs.map (wide L)) = putL m fs
  | [] => rfl
  | f :: fs => by
    show (wide L f).put m ++ putL m (fs.map (wide L)) = f.put m ++ putL m fs
    rw [wide_put L m fs]
    cases f <;> rfl
theorem wide_take (L : Nat) (m : Mg) : ∀ fs m0, takeL m (fs.map (wide L)) m0 = takeL m fs m0
  | [], _ => rfl
  | f :: fs, m0 => by
    show takeL m (fs.map (wide L)) ((wide L f).take m m0) = takeL m fs (f.take m m0)
    rw [wide_take L m fs]
    cases f <;> rfl
theorem wide_num (L : Nat) : ∀ fs, numC (fs.map (wide L)) = numC fs
  | [] => rfl
  | f :: fs => by
    rw [List.map_cons, numC_cons, numC_cons f fs, wide_num L fs]
    cases f <;> rfl
theorem wide_txt (L : Nat) : ∀ fs, txtC (fs.map (wide L)) = txtC fs
  | [] => rfl
  | f :: fs => by
    rw [List.map_cons, txtC_cons, txtC_cons f fs, wide_txt L fs]
    cases f <;> rfl
theorem put_le {m : Mg} {f : Fd} : ∀ {fs : List Fd}, f ∈ fs → (f.put m).length ≤ (putL m fs).length
  | g :: fs, h => by
    show _ ≤ (g.put m ++ putL m fs).length
    rw [List.length_append]
    rcases List.mem_cons.1 h with rfl | h
    · omega
    · have := put_le (m := m) h; omega
theorem kind_lt {m : Mg} (hk : kindB m = true) : (m.n 0).toNat < 12 := by
  have := of_decide_eq_true hk
  omega
theorem hds_fits {m : Mg} (hk : kindB m = true) (hh : headB m = true) : ∀ f ∈ hds, f.fits m := by
  have h0 := of_decide_eq_true hk
  have h1 := of_decide_eq_true hh
  intro f hf
  simp only [hds, List.mem_cons, List.not_mem_nil, or_false] at hf
  rcases hf with rfl | rfl | rfl | rfl
  · show 0 ≤ m.n 0 ∧ m.n 0 < 256; omega
  · show 0 ≤ m.n 1 ∧ m.n 1 < 256; omega
  · show 0 ≤ m.n 2 ∧ m.n 2 < 256; omega
  · show 0 ≤ m.n 3 ∧ m.n 3 < 256; omega
theorem hds_len (m : Mg) : (putL m hds).length = 4 := by
  show (fl 1 _ ++ (fl 1 _ ++ (fl 1 _ ++ (fl 1 _ ++ [])))).length = 4
  simp only [List.length_append, fl_len, List.length_nil]
theorem fdsK_fits {m : Mg} (hm : mayU m (m.n 0).toNat 16 = true) : ∀ f ∈ fdsK (m.n 0).toNat, f.fits m := fun f hf => by
  obtain ⟨j, hj, _, hfj⟩ := mem_fdsU hf
  exact (fds_good j f hfj).fits (may_weak ((mayU_iff _ _ _).1 hm j hj f hfj))
/-- The head of bytes that are a message's. -/
theorem head_back {z : Nat → Nat} {N : Nat} {m : Mg} (hk : kindB m = true) (hm : mayM m = true) (hb : bodyG m = cutZ z 0 N) : headG z N = (takeL m hds mg0, 4, 0) := by
  have hm := Bool.and_eq_true_iff.1 hm
  have hl : (bodyG m).length = N := by rw [hb, cutZ_len]
  have hl2 : (bodyG m).length = 4 + (putL m (fdsK (m.n 0).toNat)).length := by unfold bodyG; rw [List.length_append, hds_len]
  unfold headG
  rw [getL_put hds mg0 0 (hds_fits hk hm.1) (fun j hj => by
    rw [hds_len] at hj
    have : (bodyG m).getD j 0 = (putL m hds).getD j 0 := getD_left (by rw [hds_len]; exact hj)
    rw [← this, hb, cutZ_get _ _ _ _ (by omega)]) (by rw [hds_len]; omega), hds_len]
theorem part_put {z : Nat → Nat} {N : Nat} {m : Mg} (hb : bodyG m = cutZ z 0 N) : (∀ j, j < (putL m (fdsK (m.n 0).toNat)).length → z (4 + j) = (putL m (fdsK (m.n 0).toNat)).getD j 0) ∧ 4 + (putL m (fdsK (m.n 0).toNat)).length = N := by
  have hl : (bodyG m).length = N := by rw [hb, cutZ_len]
  have hl2 : (bodyG m).length = 4 + (putL m (fdsK (m.n 0).toNat)).length := by unfold bodyG; rw [List.length_append, hds_len]
  refine ⟨fun j hj => ?_, by omega⟩
  have : (bodyG m).getD ((putL m hds).length + j) 0 = (putL m (fdsK (m.n 0).toNat)).getD j 0 := getD_right
  rw [hds_len] at this
  rw [← this, hb, cutZ_get _ _ _ _ (by omega), Nat.zero_add]
theorem take_kind (m : Mg) : (takeL m hds mg0).n 0 = m.n 0 := by
  rw [takeL_n, if_pos ((hds_num 0).2 (by decide))]
/-- What is written of a message that may be is read as that message. -/
theorem read_back {z : Nat → Nat} {N : Nat} {m : Mg} (hk : kindB m = true) (hm : mayM m = true) (hw : m.wf) (hb : bodyG m = cutZ z 0 N) : readG z N = some m ∧ lookG z N = m := by
  have hh := head_back hk hm hb
  have hm2 := (Bool.and_eq_true_iff.1 hm).2
  have ho := only_same hk hw hm2
  unfold onlyG at ho
  obtain ⟨hp, hn⟩ := part_put hb
  have hkk : kindB (takeL m hds mg0) = true := by unfold kindB; rw [take_kind]; exact hk
  constructor
  · have e : partG z N = (m, N, 0) := by
      unfold partG
      rw [hh]
      simp only
      rw [take_kind, getL_put _ _ _ (fdsK_fits hm2) hp (by omega), hn, ho]
    unfold readG
    rw [hh, e, if_neg (by simp only; rw [hkk]; decide), if_pos ⟨rfl, rfl, hm⟩]
  · unfold lookG
    rw [hh]
    simp only
    rw [take_kind, getL_put (m := m) _ _ _ (fun f hf => ?_) (by rw [wide_put]; exact hp) (by rw [wide_put]; omega)]
    · simp only
      rw [wide_take, ho]
    · obtain ⟨g, hg, rfl⟩ := List.mem_map.1 hf
      have h1 := fdsK_fits hm2 g hg
      have h2 := put_le (m := m) hg
      cases g with
      | var c most =>
        obtain ⟨a1, a2, a3, a4⟩ := h1
        exact ⟨a1, by omega, by decide, a4⟩
      | small c most => exact h1
      | text c most =>
        obtain ⟨a1, a2⟩ := h1
        refine ⟨?_, a2⟩
        have : ((Fd.text c most).put m).length = (vl 9 (m.s c).length).length + (m.s c).length := by show (vl 9 (m.s c).length ++ m.s c).length = _; simp
        show (m.s c).length ≤ N
        omega
theorem hds_sane : ∀ f ∈ hds, f.sane := by
  intro f hf
  simp only [hds, List.mem_cons, List.not_mem_nil, or_false] at hf
  rcases hf with rfl | rfl | rfl | rfl <;> trivial
theorem headG_wf (z : Nat → Nat) (N : Nat) : (∀ c, 4 ≤ c → (headG z N).1.n c = 0) ∧ ∀ c, (headG z N).1.s c = [] := by
  refine ⟨fun c hc => ?_, fun c => ?_⟩
  · unfold headG
    rw [getL_n z N hds mg0 0 0 c (fun h => by have := (hds_num c).1 h; omega)]
    rfl
  · unfold headG
    rw [getL_s z N hds mg0 0 0 c (fun h => absurd h (by show c ∉ []; exact List.not_mem_nil))]
    rfl
theorem getL_wf (z : Nat → Nat) (N : Nat) (k : Nat) (fs : List Fd) (h1 : numC fs = numC (fdsK k)) (h2 : txtC fs = txtC (fdsK k)) (a b : Nat) : (getL z N fs (headG z N).1 a b).1.wf := by
  obtain ⟨g1, g2⟩ := headG_wf z N
  refine ⟨fun c hc => ?_, fun c c1 c2 c3 => ?_⟩
  · rw [getL_n z N fs _ _ _ c (fun h => by rw [h1] at h; have := fdsK_num h; omega)]
    exact g1 c (by omega)
  · rw [getL_s z N fs _ _ _ c (fun h => by rw [h2] at h; have := fdsK_txt h; omega)]
    exact g2 c
theorem look_wf (z : Nat → Nat) (N : Nat) : (lookG z N).wf := by unfold lookG; exact getL_wf z N ((headG z N).1.n 0).toNat _ (wide_num _ _) (wide_txt _ _) _ _
theorem part_wf (z : Nat → Nat) (N : Nat) : (partG z N).1.wf := by unfold partG; exact getL_wf z N ((headG z N).1.n 0).toNat _ rfl rfl _ _
/-- What is read is just what is written of it. -/
theorem read_form {z : Nat → Nat} (hz : ∀ j, z j < 256) {N : Nat} {m : Mg} (h : readG z N = some m) : kindB m = true ∧ mayM m = true ∧ m.wf ∧ bodyG m = cutZ z 0 N := by
  unfold readG at h
  by_cases hk : kindB (headG z N).1 = false
  · rw [if_pos hk] at h; exact absurd h (by simp)
  · rw [if_neg hk] at h
    have hk := Bool.of_not_eq_false hk
    by_cases hc : (partG z N).2.2 = 0 ∧ (partG z N).2.1 = N ∧ mayM (partG z N).1 = true
    · rw [if_pos hc] at h
      obtain rfl := Option.some.inj h
      obtain ⟨hc1, hc2, hc3⟩ := hc
      have hk12 := kind_lt hk
      have hnd := fdsK_nodup ⟨_, hk12⟩
      have h4 : ∀ c, c < 4 → (partG z N).1.n c = (headG z N).1.n c := fun c hc => by
        unfold partG
        rw [getL_n z N _ _ _ _ c (fun h => by have := fdsK_num h; omega)]
      have hHle : ∀ fs a b m0, a ≤ N → (getL z N fs m0 a b).2.1 ≤ N := by
        intro fs
        induction fs with
        | nil => intro a b m0 h; exact h
        | cons f fs ih =>
          intro a b m0 ha
          show (getL z N fs _ _ _).2.1 ≤ N
          refine ih _ _ _ ?_
          cases f with
          | var c most =>
            show (varAns z N most a b).2.1 ≤ N
            unfold varAns
            split
            · exact ha
            · simp only
              by_cases hv : (vlook (fun j => z (a + j)) (N - a) most).2.2 = 0
              · have := (vlook_size _ _ _ hv).1; omega
              · have := (vlook_bad _ _ _ hv).2; omega
          | small c most =>
            show (fixAns z N 1 a b).2.1 ≤ N
            unfold fixAns
            split
            · exact ha
            · split
              · exact ha
              · simp only; omega
          | text c most =>
            show (bytesAns z N most a b).2.2.1 ≤ N
            unfold bytesAns
            split
            · exact ha
            · simp only
              by_cases hv : (blook (fun j => z (a + j)) (N - a) most).2.2 = 0
              · have := blook_size _ _ _ hv; omega
              · have := (blook_bad _ _ _ hv).2; omega
      have hH : (headG z N).2.1 ≤ N := hHle hds 0 0 mg0 (Nat.zero_le _)
      obtain ⟨p0, p1, p2, p3⟩ := putL_get hz (fdsK ((headG z N).1.n 0).toNat) (headG z N).1 (headG z N).2.1 (headG z N).2.2 hH (fun f hf => (fdsK_good hf).sane) hnd.1 hnd.2 (by unfold partG at hc1; exact hc1)
      obtain ⟨q0, q1, q2, q3⟩ := putL_get hz hds mg0 0 0 (Nat.zero_le N) hds_sane (by decide) (by decide) (by unfold headG at p0; exact p0)
      have hkk : kindB (partG z N).1 = true := by unfold kindB; rw [h4 0 (by decide)]; exact hk
      refine ⟨hkk, hc3, part_wf z N, ?_⟩
      unfold bodyG
      rw [h4 0 (by decide)]
      have e1 : putL (partG z N).1 hds = putL (headG z N).1 hds := by
        show fl 1 ((partG z N).1.n 0).toNat ++ (fl 1 ((partG z N).1.n 1).toNat ++ (fl 1 ((partG z N).1.n 2).toNat ++ (fl 1 ((partG z N).1.n 3).toNat ++ []))) = _
        rw [h4 0 (by decide), h4 1 (by decide), h4 2 (by decide), h4 3 (by decide)]
        rfl
      rw [e1]
      have q3' : putL (headG z N).1 hds = cutZ z 0 ((headG z N).2.1 - 0) := by unfold headG; exact q3
      have p3' : putL (partG z N).1 (fdsK ((headG z N).1.n 0).toNat) = cutZ z (headG z N).2.1 ((partG z N).2.1 - (headG z N).2.1) := by unfold partG; exact p3
      rw [q3', p3', hc2]
      have := cutZ_cat z 0 (headG z N).2.1 (N - (headG z N).2.1)
      rw [Nat.zero_add] at this
      have e5 : (headG z N).2.1 + (N - (headG z N).2.1) = N := Nat.add_sub_of_le hH
      rw [e5] at this
      rw [Nat.sub_zero]
      exact this
    · rw [if_neg hc] at h; exact absurd h (by simp)
theorem seal_len (l : List Nat) : (sealG l).length = l.length + 4 := by unfold sealG; rw [List.length_append, fl_len]
theorem seal_inj {a b : List Nat} (h : sealG a = sealG b) : a = b := by
  have hl : a.length = b.length := by have := congrArg List.length h; rw [seal_len, seal_len] at this; omega
  exact (List.append_inj h hl).1
/-- The sum of bytes, and the four behind them. -/
theorem seal_iff (z : Nat → Nat) (hz : ∀ j, z j < 256) (N : Nat) : sealG (cutZ z 0 N) = cutZ z 0 (N + 4) ↔ be (fun j => z (N + j)) 4 = Crc.sum (cutZ z 0 N) := by
  have hs : Crc.sum (cutZ z 0 N) < 4294967296 := Crc.sum_lt _ (fun c hc => by
    obtain ⟨j, _, rfl⟩ := List.mem_map.1 hc
    exact hz _)
  have hc := cutZ_cat z 0 N 4
  rw [Nat.zero_add] at hc
  rw [← hc]
  unfold sealG
  have hf : fl 4 (be (fun j => z (N + j)) 4) = cutZ z N 4 := fl_be (fun j => z (N + j)) (fun j => hz _) 4
  constructor
  · intro h
    have h1 := (List.append_inj h rfl).2
    have h2 := be_digits (fun j => z (N + j)) 4 (Crc.sum (cutZ z 0 N)) (by rw [show 256 ^ 4 = 4294967296 by decide]; exact hs) (fun j hj => by
      rw [← fl_get 4 _ j hj, h1, cutZ_get z N 4 j hj]) 4 (Nat.le_refl _)
    rw [h2, Nat.sub_self, Nat.pow_zero, Nat.div_one]
  · intro h
    rw [← h, hf]
/-- DECODE: the document's answer is the program's. -/
theorem decR_eq (z : Nat → Nat) (hz : ∀ j, z j < 256) (n : Nat) : decR z n = decM z n := by
  unfold decR decM
  by_cases h0 : n < 4 ∨ 17000 < n
  · rw [if_pos h0, if_pos h0]
  · rw [if_neg h0, if_neg h0]
    obtain ⟨N, rfl⟩ : ∃ N, n = N + 4 := ⟨n - 4, by omega⟩
    rw [Nat.add_sub_cancel]
    have hs := seal_iff z hz N
    by_cases h1 : be (fun j => z (N + j)) 4 = Crc.sum (cutZ z 0 N)
    · rw [if_neg (show ¬ (sealG (cutZ z 0 N) ≠ cutZ z 0 (N + 4)) from fun e => e (hs.2 h1)), if_neg (show ¬ (be (fun j => z (N + j)) 4 ≠ Crc.sum (cutZ z 0 N)) from fun e => e h1)]
      cases hr : readG z N with
      | some m =>
        obtain ⟨hk, hm, hw, hb⟩ := read_form hz hr
        obtain ⟨_, hl⟩ := read_back hk hm hw hb
        have he : encM m = (0, cutZ z 0 (N + 4)) := by
          unfold encM
          rw [if_neg (by rw [hk]; decide), if_neg (by rw [hm]; decide), hb, hs.2 h1]
        rw [hl, he, if_neg (by simp)]
      | none =>
        rw [if_pos ?_]
        by_cases h2 : (encM (lookG z N)).1 ≠ 0
        · exact .inl h2
        · refine .inr fun h3 => ?_
          have h2 : (encM (lookG z N)).1 = 0 := Classical.not_not.1 h2
          unfold encM at h2 h3
          by_cases hk : kindB (lookG z N) = false
          · rw [if_pos hk] at h2; exact absurd (show (80 : Nat) = 0 from h2) (by decide)
          · rw [if_neg hk] at h2 h3
            by_cases hm : mayM (lookG z N) = false
            · rw [if_pos hm] at h2; exact absurd (show (83 : Nat) = 0 from h2) (by decide)
            · rw [if_neg hm] at h3
              have hb : bodyG (lookG z N) = cutZ z 0 N := seal_inj (h3.trans (hs.2 h1).symm)
              rw [(read_back (Bool.of_not_eq_false hk) (Bool.of_not_eq_false hm) (look_wf z N) hb).1] at hr
              exact absurd hr (by simp)
    · rw [if_pos (show sealG (cutZ z 0 N) ≠ cutZ z 0 (N + 4) from fun e => h1 (hs.1 e)), if_pos (show be (fun j => z (N + j)) 4 ≠ Crc.sum (cutZ z 0 N) from h1)]
/-- There and back. -/
theorem dec_enc {m : Mg} {z : Nat → Nat} (hz : ∀ j, z j < 256) (hw : m.wf) {l : List Nat} (he : encM m = (0, l)) (hl : l.length ≤ 17000) (hb : cutZ z 0 l.length = l) : decM z l.length = (0, m) := by
  unfold encM at he
  by_cases hk : kindB m = false
  · rw [if_pos hk] at he; exact absurd (congrArg Prod.fst he) (by simp)
  · rw [if_neg hk] at he
    by_cases hm : mayM m = false
    · rw [if_pos hm] at he; exact absurd (congrArg Prod.fst he) (by simp)
    · rw [if_neg hm] at he
      have e : sealG (bodyG m) = l := congrArg Prod.snd he
      have hlen : l.length = (bodyG m).length + 4 := by rw [← e, seal_len]
      have hb1 : bodyG m = cutZ z 0 (bodyG m).length := by
        have hc := cutZ_cat z 0 (bodyG m).length 4
        rw [Nat.zero_add, ← hlen, hb, ← e] at hc
        exact ((List.append_inj hc (by rw [cutZ_len])).1).symm
      have hs := seal_iff z hz (bodyG m).length
      rw [← hb1, ← hlen, hb] at hs
      have h1 := hs.1 e
      unfold decM
      rw [hlen] at hl ⊢
      rw [if_neg (by omega), Nat.add_sub_cancel, ← hb1, if_neg (fun q => q h1), (read_back (Bool.of_not_eq_false hk) (Bool.of_not_eq_false hm) hw hb1).1]
theorem dec_form {z : Nat → Nat} (hz : ∀ j, z j < 256) {n : Nat} {m : Mg} (h : decM z n = (0, m)) : encM m = (0, cutZ z 0 n) ∧ m.wf ∧ 4 ≤ n ∧ n ≤ 17000 := by
  unfold decM at h
  by_cases h0 : n < 4 ∨ 17000 < n
  · rw [if_pos h0] at h; exact absurd (congrArg Prod.fst h) (by simp)
  · rw [if_neg h0] at h
    obtain ⟨N, rfl⟩ : ∃ N, n = N + 4 := ⟨n - 4, by omega⟩
    rw [Nat.add_sub_cancel] at h
    by_cases h1 : be (fun j => z (N + j)) 4 = Crc.sum (cutZ z 0 N)
    · rw [if_neg (fun e => e h1)] at h
      cases hr : readG z N with
      | none => rw [hr] at h; exact absurd (congrArg Prod.fst h) (by simp)
      | some m' =>
        rw [hr] at h
        obtain rfl : m' = m := congrArg Prod.snd h
        obtain ⟨hk, hm, hw, hb⟩ := read_form hz hr
        refine ⟨?_, hw, by omega, by omega⟩
        unfold encM
        rw [if_neg (by rw [hk]; decide), if_neg (by rw [hm]; decide), hb, (seal_iff z hz N).2 h1]
    · rw [if_pos h1] at h; exact absurd (congrArg Prod.fst h) (by simp)
end Go.Proofs.YtonpmabdjngdcaaGreatDoor
