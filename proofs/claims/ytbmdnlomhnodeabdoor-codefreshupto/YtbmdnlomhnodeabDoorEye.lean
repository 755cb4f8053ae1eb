/- The document's Reader (Eye): what it is in memory, its Left, Raw, fixed reads and End. -/
import Derived.Test.YtbmdnlomhnodeabDoorReadsAll
import Derived.Test.YtbmdnlomhnodeabDoorPairs
namespace Go.Proofs.YtbmdnlomhnodeabDoor
open Go.RowKit
set_option maxRecDepth 100000

structure IsE (w : World) (eb hb n : Nat) (z : Nat → Nat) (at' bad : Nat) : Prop where
  rd : w.rowIs eb 51 3 (rdCell hb n at' bad)
  row : w.rowIs hb 5 n (fun j => .int .u8 (z j : Nat))
  ne : hb ≠ eb
  byte : ∀ j, z j < 256
  le : at' ≤ n
  room : n ≤ 281474976710656
theorem IsE.since {w w' : World} {eb hb n at' bad : Nat} {z : Nat → Nat} (h : IsE w eb hb n z at' bad) (hs : w.Since w.heap.size w') : IsE w' eb hb n z at' bad :=
  ⟨row_since h.rd hs, row_since h.row hs, h.ne, h.byte, h.le, h.room⟩
theorem IsE.but {r : Nat} {w w' : World} {eb hb n at' bad : Nat} {z : Nat → Nat} (h : IsE w eb hb n z at' bad) (hs : But r w w') (h1 : eb ≠ r) (h2 : hb ≠ r) : IsE w' eb hb n z at' bad :=
  ⟨hs.row h.rd h1, hs.row h.row h2, h.ne, h.byte, h.le, h.room⟩
theorem IsE.setAt {w : World} {eb hb n at' bad : Nat} {z : Nat → Nat} (h : IsE w eb hb n z at' bad) (q : Nat) (hq : q ≤ n) : IsE (w.setCell ⟨eb, 1, none⟩ (.int .i64 q)) eb hb n z q bad :=
  ⟨(h.rd.set 1 _).congr (fun i hi => by
      match i, hi with
      | 0, _ => rfl
      | 1, _ => rfl
      | 2, _ => rfl), h.row.setOther (by show hb ≠ eb; exact h.ne) _, h.ne, h.byte, hq, h.room⟩
theorem IsE.setBad {w : World} {eb hb n at' bad : Nat} {z : Nat → Nat} (h : IsE w eb hb n z at' bad) (q : Nat) : IsE (w.setCell ⟨eb, 2, none⟩ (.int .i64 q)) eb hb n z at' q :=
  ⟨(h.rd.set 2 _).congr (fun i hi => by
      match i, hi with
      | 0, _ => rfl
      | 1, _ => rfl
      | 2, _ => rfl), h.row.setOther (by show hb ≠ eb; exact h.ne) _, h.ne, h.byte, h.le, h.room⟩
theorem IsE.drew {w : World} {eb hb n at' bad : Nat} {z : Nat → Nat} (h : IsE w eb hb n z at' bad) : IsE w.drew eb hb n z at' bad := ⟨h.rd.drew, h.row.drew, h.ne, h.byte, h.le, h.room⟩
theorem IsE.c0 {w : World} {eb hb n at' bad : Nat} {z : Nat → Nat} (h : IsE w eb hb n z at' bad) : w.cell? ⟨eb, 0, none⟩ = some (.slice (some ⟨hb, 0, none⟩) n n) := h.rd.cell (by decide)
theorem IsE.c1 {w : World} {eb hb n at' bad : Nat} {z : Nat → Nat} (h : IsE w eb hb n z at' bad) : w.cell? ⟨eb, 1, none⟩ = some (.int .i64 at') := h.rd.cell (by decide)
theorem IsE.c2 {w : World} {eb hb n at' bad : Nat} {z : Nat → Nat} (h : IsE w eb hb n z at' bad) : w.cell? ⟨eb, 2, none⟩ = some (.int .i64 bad) := h.rd.cell (by decide)

theorem IsE.setOther {w : World} {eb hb n at' bad : Nat} {z : Nat → Nat} (h : IsE w eb hb n z at' bad) {a : Addr} (h1 : eb ≠ a.block) (h2 : hb ≠ a.block) (v : Value) : IsE (w.setCell a v) eb hb n z at' bad :=
  ⟨h.rd.setOther h1 v, h.row.setOther h2 v, h.ne, h.byte, h.le, h.room⟩


theorem eyeLeft (eb hb n at' bad : Nat) (z : Nat → Nat) (w : World) (h : IsE w eb hb n z at' bad) : Calls Tryd.prog 57 #[.pointer (some ⟨eb, 0, none⟩)] w fun e w' => e = .returned (.int .i64 ((n - at' : Nat) : Int)) ∧ ∃ m, w' = w.drewN m := by
  have c1 := h.c1
  have c0 := h.c0
  have hle := h.le
  have hroom := h.room
  go_enter Tryd.func57, Tryd.ntmps57
  go_wp2_with fail
  go_quiet (fail)
  go_wp2
  go_ret
  exact ⟨ret_int (by omega), nq, rfl⟩
theorem isE_eq {w : World} {rb hb n a b c d : Nat} {z : Nat → Nat} (h : IsE w rb hb n z a c) (e : a = b) (f : c = d) : IsE w rb hb n z b d := by subst e; subst f; exact h
theorem eye_place {w W : World} {rb hb n at' bad : Nat} {z : Nat → Nat} (h : IsE w rb hb n z at' bad) (hW : w.Since w.heap.size W) (o k : Nat) (hk : k ≤ n - at') (ho : n ≠ at' → o = at') : Byt W (some ⟨hb, o, none⟩) k (fun j => z (at' + j)) := fun j hj => by
  have hrow := row_since h.row hW
  have := hrow.cell (i := at' + j) (by omega)
  exact ⟨hb, o, rfl, by rw [ho (by omega)]; exact this⟩

set_option maxHeartbeats 1600000 in
set_option maxRecDepth 100000 in
theorem eyeRaw (eb hb n at' bad : Nat) (k : Int) (z : Nat → Nat) (w : World) (h : IsE w eb hb n z at' bad) (hm : k ≤ 9223372036854775807) :
    Calls Tryd.prog 40 #[.pointer (some ⟨eb, 0, none⟩), .int .i64 k] w fun e w' => (∃ ta, e = .returned (.slice ta (rawAns n k at' bad).1 (rawAns n k at' bad).1) ∧ Txt w.heap.size w' ta (rawAns n k at' bad).1 (fun j => z ((rawAns n k at' bad).2.1 + j))) ∧ But eb w w' ∧ IsE w' eb hb n z (rawAns n k at' bad).2.2.1 (rawAns n k at' bad).2.2.2 := by
  have c2 := h.c2
  unfold rawAns
  by_cases hbad : bad = 0
  · subst hbad
    rw [if_neg (by simp)]
    by_cases hneg : k < 0
    · rw [if_pos hneg]
      have f2 := h.rd.frozen 2
      have hI := h.setBad 14
      have hB : But eb w (w.setCell ⟨eb, 2, none⟩ (.int .i64 14)) := (But.of_since (World.Since.refl _ _)).setCell 2 _
      go_enter Tryd.func40, Tryd.ntmps40
      go_wp2_with fail
      go_ret
      exact ⟨⟨none, rfl, txt_none _ _ _ _ rfl⟩, hB, hI⟩
    · rw [if_neg hneg]
      obtain ⟨M, rfl⟩ : ∃ M : Nat, k = (M : Nat) := ⟨k.toNat, by omega⟩
      rw [Int.toNat_natCast]
      unfold rlook
      have hlf := eyeLeft eb hb n at' 0 z w h
      have hle := h.le
      have hroom := h.room
      by_cases hsh : n - at' < M
      · rw [if_pos hsh]
        have hgt : ((n - at' : Nat) : Int) < (M : Int) := by omega
        generalize ((n - at' : Nat) : Int) = LL at *
        go_enter Tryd.func40, Tryd.ntmps40
        go_wp2_with fail
        refine hlf.mono ?_
        rintro e w1 ⟨rfl, m1, rfl⟩
        have hs1 := since_drewN' (World.Since.refl w.heap.size w) m1
        have h1 := h.since hs1
        have f2 := h1.rd.frozen 2
        have c3 := h1.c2
        have hI := h1.setBad 10
        have hB : But eb w ((w.drewN m1).setCell ⟨eb, 2, none⟩ (.int .i64 10)) := (But.of_since hs1).setCell 2 _
        generalize w.drewN m1 = w1 at *
        clear hlf
        go_wp2_with fail
        go_ret
        exact ⟨⟨none, rfl, txt_none _ _ _ _ rfl⟩, hB, hI⟩
      · rw [if_neg hsh]
        have hgt : ¬ (((n - at' : Nat) : Int) < (M : Int)) := by omega
        obtain ⟨E, hE, hsum⟩ : ∃ E : Nat, E - at' = M ∧ (at' : Int) + (M : Int) = (E : Int) := ⟨at' + M, by omega, by omega⟩
        have hxa : (E : Int) ≤ (n : Int) := by omega
        have hxb : (at' : Int) ≤ (E : Int) := by omega
        have hwE : IntKind.i64.wrap (E : Int) = (E : Int) := by rw [IntKind.wrap_i64]; omega
        have hwS : IntKind.i64.wrap ((at' : Int) + (M : Int)) = (E : Int) := by rw [hsum]; exact hwE
        have hxc : at' ≤ E := by omega
        have hxd : E ≤ n := by omega
        have hcp : ∀ W, w.Since w.heap.size W → Calls Tryd.prog 24 #[.slice (if n = at' then some ⟨hb, 0, none⟩ else some ⟨hb, at', none⟩) (E - at') (n - at')] W fun e w' => e = .returned (.slice (some ⟨W.heap.size, 0, none⟩) M M) ∧ W.Since W.heap.size w' ∧ w'.rowIs W.heap.size 5 M (fun j => .int .u8 (z (at' + j) : Nat)) := fun W hs => by
          rw [hE]
          by_cases hna : n = at'
          · rw [if_pos hna]
            exact (copy_any _ M (n - at') (fun j => z (at' + j)) W (by omega) (eye_place h hs 0 M (by omega) (fun hh => absurd hna hh))).mono fun e w' ⟨h1, h2, _, h4⟩ => ⟨h1, h2, h4⟩
          · rw [if_neg hna]
            exact (copy_any _ M (n - at') (fun j => z (at' + j)) W (by omega) (eye_place h hs at' M (by omega) (fun _ => rfl))).mono fun e w' ⟨h1, h2, _, h4⟩ => ⟨h1, h2, h4⟩
        have HL := hide hcp
        clear hcp
        go_enter Tryd.func40, Tryd.ntmps40
        generalize hLL : ((n - at' : Nat) : Int) = LL at *
        go_wp2_with fail
        refine hlf.mono ?_
        rintro e w1 ⟨rfl, m1, rfl⟩
        have hs1 := since_drewN' (World.Since.refl w.heap.size w) m1
        have h1 := h.since hs1
        have hlt := h1.rd.lt
        generalize w.drewN m1 = w1 at *
        clear hlf c2 hLL hE
        have d0 := h1.c0
        have d1 := h1.c1
        have hwz : w.heap.size ≤ w1.heap.size := hs1.size
        go_upto_region 9 with fail
        go_cut [5] from 26 to 51 (fun s5 wx => ∃ g, s5 = .slice (some ⟨g, 0, none⟩) M M ∧ w.heap.size ≤ g ∧ w1.Since w1.heap.size wx ∧ wx.rowIs g 5 M (fun j => .int .u8 (z (at' + j) : Nat)))
        case first =>
          by_cases hna : n = at'
          · subst hna
            obtain rfl : n = E := by omega
            obtain rfl : M = 0 := by omega
            rw [if_pos rfl, Nat.sub_self] at HL
            go_region_held3 (fun W => w1.Since w1.heap.size W ∧ W.cell? ⟨eb, 0, none⟩ = some (.slice (some ⟨hb, 0, none⟩) n n) ∧ W.cell? ⟨eb, 1, none⟩ = some (.int .i64 n))
              ((first | exact ⟨(World.Since.refl _ _).drew, d0, d1⟩ | exact ⟨hs2, (h1.since hs2).c0, (h1.since hs2).c1⟩))
              ((first | (go_at_call 24; refine ((unhide HL) _ (hs1.trans (since_mono (B := w1.heap.size) (World.Since.refl _ _).drew (by omega)))).mono ?_; rintro e w2 ⟨rfl, hs2', hr2⟩; have hs2 : w1.Since w1.heap.size w2 := (World.Since.refl _ _).drew.trans hs2')))
            all_goals
              go_wp2_with fail
              go_meet
              case rel => go_light; exact ⟨_, rfl, hwz, hs2, hr2⟩
          · rw [if_neg hna] at HL
            go_region_held3 (fun W => w1.Since w1.heap.size W ∧ W.cell? ⟨eb, 0, none⟩ = some (.slice (some ⟨hb, 0, none⟩) n n) ∧ W.cell? ⟨eb, 1, none⟩ = some (.int .i64 at'))
              ((first | exact ⟨(World.Since.refl _ _).drew, d0, d1⟩ | exact ⟨hs2, (h1.since hs2).c0, (h1.since hs2).c1⟩))
              ((first | (go_at_call 24; refine ((unhide HL) _ (hs1.trans (since_mono (B := w1.heap.size) (World.Since.refl _ _).drew (by omega)))).mono ?_; rintro e w2 ⟨rfl, hs2', hr2⟩; have hs2 : w1.Since w1.heap.size w2 := (World.Since.refl _ _).drew.trans hs2')))
            all_goals
              go_wp2_with fail
              go_meet
              case rel => go_light; exact ⟨_, rfl, hwz, hs2, hr2⟩
        case rest =>
          obtain ⟨g, rfl, hg, hs2, hr2⟩ := hcut
          have h2 := h1.since hs2
          have t1 := h2.c1
          have tf := h2.rd.frozen 1
          have hI := h2.setAt (at' + M) (by omega)
          have hsw := hs1.trans (since_mono hs2 hwz)
          have hB : But eb w (wc.setCell ⟨eb, 1, none⟩ (.int .i64 ((at' + M : Nat) : Int))) := (But.of_since hsw).setCell 1 _
          have hge : g ≠ eb := fun e => by
            subst e
            have := hr2.lt
            have hh := h.rd.lt
            omega
          have hT : Txt w.heap.size (wc.setCell ⟨eb, 1, none⟩ (.int .i64 ((at' + M : Nat) : Int))) (some ⟨g, 0, none⟩) M (fun j => z (at' + j)) := Or.inr ⟨g, rfl, hg, hr2.setOther (by show g ≠ eb; exact hge) _⟩
          have ec : ((at' + M : Nat) : Int) = (at' : Int) + (M : Int) := by omega
          rw [ec, hsum] at hI hB hT
          clear HL d0 d1 hlt
          go_wp2_with fail
          go_ret
          exact ⟨⟨_, rfl, hT⟩, hB, hI⟩
  · rw [if_pos hbad]
    have hq : ((bad : Int) != 0) = true := by simp; omega
    go_enter Tryd.func40, Tryd.ntmps40
    go_wp2_with fail
    go_ret
    exact ⟨⟨none, rfl, txt_none _ _ _ _ rfl⟩, But.of_since (World.Since.refl _ _), h⟩
end Go.Proofs.YtbmdnlomhnodeabDoor
