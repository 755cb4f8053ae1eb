/- The document's Reader over bytes that lie anywhere: Left, Raw, last. -/
import Derived.Test.YtbmdnlomhnodeabDoorEyeText
import Derived.Deep.RegionHeld3
namespace Go.Proofs.YtbmdnlomhnodeabDoor
open Go.RowKit
set_option maxRecDepth 100000

def gCell (hb ho hc n at' bad : Nat) (i : Nat) : Value := if i = 0 then .slice (some ⟨hb, ho, none⟩) n hc else if i = 1 then .int .i64 (at' : Nat) else .int .i64 (bad : Nat)
structure IsG (w : World) (eb hb ho hc n : Nat) (z : Nat → Nat) (at' bad : Nat) : Prop where
  rd : w.rowIs eb 51 3 (gCell hb ho hc n at' bad)
  cel : ∀ j, j < n → w.cell? ⟨hb, ho + j, none⟩ = some (.int .u8 (z j : Nat))
  ne : 0 < n → hb ≠ eb
  byte : ∀ j, z j < 256
  le : at' ≤ n
  room : n ≤ 281474976710656
  capn : n ≤ hc
  hcm : hc ≤ 281474976710656
theorem IsG.later {w w' : World} {eb hb ho hc n at' bad : Nat} {z : Nat → Nat} (h : IsG w eb hb ho hc n z at' bad) (h1 : w'.heap[eb]? = w.heap[eb]?) (h2 : 0 < n → w'.heap[hb]? = w.heap[hb]?) : IsG w' eb hb ho hc n z at' bad :=
  ⟨h.rd.of_block h1, fun j hj => by rw [World.cell?_of_block (w := w) (h2 (by omega))]; exact h.cel j hj, h.ne, h.byte, h.le, h.room, h.capn, h.hcm⟩
theorem IsG.hlt {w : World} {eb hb ho hc n at' bad : Nat} {z : Nat → Nat} (h : IsG w eb hb ho hc n z at' bad) (hp : 0 < n) : hb < w.heap.size := World.block_lt_of_cell? _ _ (h.cel 0 hp)
theorem IsG.since {w w' : World} {eb hb ho hc n at' bad : Nat} {z : Nat → Nat} (h : IsG w eb hb ho hc n z at' bad) (hs : w.Since w.heap.size w') : IsG w' eb hb ho hc n z at' bad :=
  h.later (hs.block eb h.rd.lt) (fun hp => hs.block hb (h.hlt hp))
theorem IsG.setAt {w : World} {eb hb ho hc n at' bad : Nat} {z : Nat → Nat} (h : IsG w eb hb ho hc n z at' bad) (q : Nat) (hq : q ≤ n) : IsG (w.setCell ⟨eb, 1, none⟩ (.int .i64 q)) eb hb ho hc n z q bad :=
  ⟨(h.rd.set 1 _).congr (fun i hi => by
      match i, hi with
      | 0, _ => rfl
      | 1, _ => rfl
      | 2, _ => rfl), fun j hj => by rw [World.cell?_of_block (w := w) (Below.heap_setCell _ _ _ _ (by show hb ≠ eb; exact h.ne (by omega)))]; exact h.cel j hj, h.ne, h.byte, hq, h.room, h.capn, h.hcm⟩
theorem IsG.setBad {w : World} {eb hb ho hc n at' bad : Nat} {z : Nat → Nat} (h : IsG w eb hb ho hc n z at' bad) (q : Nat) : IsG (w.setCell ⟨eb, 2, none⟩ (.int .i64 q)) eb hb ho hc n z at' q :=
  ⟨(h.rd.set 2 _).congr (fun i hi => by
      match i, hi with
      | 0, _ => rfl
      | 1, _ => rfl
      | 2, _ => rfl), fun j hj => by rw [World.cell?_of_block (w := w) (Below.heap_setCell _ _ _ _ (by show hb ≠ eb; exact h.ne (by omega)))]; exact h.cel j hj, h.ne, h.byte, h.le, h.room, h.capn, h.hcm⟩
theorem IsG.c0 {w : World} {eb hb ho hc n at' bad : Nat} {z : Nat → Nat} (h : IsG w eb hb ho hc n z at' bad) : w.cell? ⟨eb, 0, none⟩ = some (.slice (some ⟨hb, ho, none⟩) n hc) := h.rd.cell (by decide)
theorem IsG.c1 {w : World} {eb hb ho hc n at' bad : Nat} {z : Nat → Nat} (h : IsG w eb hb ho hc n z at' bad) : w.cell? ⟨eb, 1, none⟩ = some (.int .i64 at') := h.rd.cell (by decide)
theorem IsG.c2 {w : World} {eb hb ho hc n at' bad : Nat} {z : Nat → Nat} (h : IsG w eb hb ho hc n z at' bad) : w.cell? ⟨eb, 2, none⟩ = some (.int .i64 bad) := h.rd.cell (by decide)

theorem gLeft (eb hb ho hc n at' bad : Nat) (z : Nat → Nat) (w : World) (h : IsG w eb hb ho hc n z at' bad) : Calls Tryd.prog 57 #[.pointer (some ⟨eb, 0, none⟩)] w fun e w' => e = .returned (.int .i64 ((n - at' : Nat) : Int)) ∧ ∃ m, w' = w.drewN m := by
  have c1 := h.c1
  have c0 := h.c0
  have hle := h.le
  have hroom := h.room
  go_enter Tryd.func57, Tryd.ntmps57
  go_wp2_with fail
  go_quiet (fail)
  go_wp2
  go_ret
  exact ⟨ret_int (by omega), nq, rfl⟩
theorem isG_eq {w : World} {rb hb ho hc n a b c d : Nat} {z : Nat → Nat} (h : IsG w rb hb ho hc n z a c) (e : a = b) (f : c = d) : IsG w rb hb ho hc n z b d := by subst e; subst f; exact h
theorem g_place {w W : World} {rb hb ho hc n at' bad : Nat} {z : Nat → Nat} (h : IsG w rb hb ho hc n z at' bad) (hW : w.Since w.heap.size W) (o k : Nat) (hk : k ≤ n - at') (ho' : hc ≠ at' → o = ho + at') : Byt W (some ⟨hb, o, none⟩) k (fun j => z (at' + j)) := fun j hj => by
  have := (h.since hW).cel (at' + j) (by omega)
  have hcn := h.capn
  exact ⟨hb, o, rfl, by rw [ho' (by omega), Nat.add_assoc]; exact this⟩

set_option maxHeartbeats 1600000 in
set_option maxRecDepth 100000 in
theorem gRaw (eb hb ho hc n at' bad : Nat) (k : Int) (z : Nat → Nat) (w : World) (h : IsG w eb hb ho hc n z at' bad) (hm : k ≤ 9223372036854775807) :
    Calls Tryd.prog 40 #[.pointer (some ⟨eb, 0, none⟩), .int .i64 k] w fun e w' => (∃ ta, e = .returned (.slice ta (rawAns n k at' bad).1 (rawAns n k at' bad).1) ∧ Txt w.heap.size w' ta (rawAns n k at' bad).1 (fun j => z ((rawAns n k at' bad).2.1 + j))) ∧ But eb w w' ∧ IsG w' eb hb ho hc n z (rawAns n k at' bad).2.2.1 (rawAns n k at' bad).2.2.2 := by
  have c2 := h.c2
  unfold rawAns
  by_cases hbad : bad = 0
  · subst hbad
    rw [if_neg (by simp)]
    by_cases hneg : k < 0
    · rw [if_pos hneg]
      have f2 := h.rd.frozen 2
      have hI := h.setBad 14
      have hB : But eb w (w.setCell ⟨eb, 2, none⟩ (.int .i64 14)) := (But.of_since (World.Since.refl _ _)).setCell 2 _
      go_enter Tryd.func40, Tryd.ntmps40
      go_wp2_with fail
      go_ret
      exact ⟨⟨none, rfl, txt_none _ _ _ _ rfl⟩, hB, hI⟩
    · rw [if_neg hneg]
      obtain ⟨M, rfl⟩ : ∃ M : Nat, k = (M : Nat) := ⟨k.toNat, by omega⟩
      rw [Int.toNat_natCast]
      unfold rlook
      have hlf := gLeft eb hb ho hc n at' 0 z w h
      have hle := h.le
      have hroom := h.room
      by_cases hsh : n - at' < M
      · rw [if_pos hsh]
        have hgt : ((n - at' : Nat) : Int) < (M : Int) := by omega
        generalize ((n - at' : Nat) : Int) = LL at *
        go_enter Tryd.func40, Tryd.ntmps40
        go_wp2_with fail
        refine hlf.mono ?_
        rintro e w1 ⟨rfl, m1, rfl⟩
        have hs1 := since_drewN' (World.Since.refl w.heap.size w) m1
        have h1 := h.since hs1
        have f2 := h1.rd.frozen 2
        have c3 := h1.c2
        have hI := h1.setBad 10
        have hB : But eb w ((w.drewN m1).setCell ⟨eb, 2, none⟩ (.int .i64 10)) := (But.of_since hs1).setCell 2 _
        generalize w.drewN m1 = w1 at *
        clear hlf
        go_wp2_with fail
        go_ret
        exact ⟨⟨none, rfl, txt_none _ _ _ _ rfl⟩, hB, hI⟩
      · rw [if_neg hsh]
        have hgt : ¬ (((n - at' : Nat) : Int) < (M : Int)) := by omega
        obtain ⟨E, hE, hsum⟩ : ∃ E : Nat, E - at' = M ∧ (at' : Int) + (M : Int) = (E : Int) := ⟨at' + M, by omega, by omega⟩
        have hxa : (E : Int) ≤ (n : Int) := by omega
        have hxb : (at' : Int) ≤ (E : Int) := by omega
        have hwE : IntKind.i64.wrap (E : Int) = (E : Int) := by rw [IntKind.wrap_i64]; omega
        have hwS : IntKind.i64.wrap ((at' : Int) + (M : Int)) = (E : Int) := by rw [hsum]; exact hwE
        have hxc : at' ≤ E := by omega
        have hxd : E ≤ n := by omega
        have hcn := h.capn
        have hxe : (E : Int) ≤ (hc : Int) := by omega
        have hxf : E ≤ hc := by omega
        have hcp : ∀ W, w.Since w.heap.size W → Calls Tryd.prog 24 #[.slice (if hc = at' then some ⟨hb, ho, none⟩ else some ⟨hb, ho + at', none⟩) (E - at') (hc - at')] W fun e w' => e = .returned (.slice (some ⟨W.heap.size, 0, none⟩) M M) ∧ W.Since W.heap.size w' ∧ w'.rowIs W.heap.size 5 M (fun j => .int .u8 (z (at' + j) : Nat)) := fun W hs => by
          rw [hE]
          by_cases hna : hc = at'
          · rw [if_pos hna]
            exact (copy_any _ M (hc - at') (fun j => z (at' + j)) W (by omega) (g_place h hs ho M (by omega) (fun hh => absurd hna hh))).mono fun e w' ⟨h1, h2, _, h4⟩ => ⟨h1, h2, h4⟩
          · rw [if_neg hna]
            exact (copy_any _ M (hc - at') (fun j => z (at' + j)) W (by omega) (g_place h hs (ho + at') M (by omega) (fun _ => rfl))).mono fun e w' ⟨h1, h2, _, h4⟩ => ⟨h1, h2, h4⟩
        have HL := hide hcp
        clear hcp
        go_enter Tryd.func40, Tryd.ntmps40
        generalize hLL : ((n - at' : Nat) : Int) = LL at *
        go_wp2_with fail
        refine hlf.mono ?_
        rintro e w1 ⟨rfl, m1, rfl⟩
        have hs1 := since_drewN' (World.Since.refl w.heap.size w) m1
        have h1 := h.since hs1
        have hlt := h1.rd.lt
        generalize w.drewN m1 = w1 at *
        clear hlf c2 hLL hE
        have d0 := h1.c0
        have d1 := h1.c1
        have hwz : w.heap.size ≤ w1.heap.size := hs1.size
        go_upto_region 9 with fail
        go_cut [5] from 26 to 51 (fun s5 wx => ∃ g, s5 = .slice (some ⟨g, 0, none⟩) M M ∧ w.heap.size ≤ g ∧ w1.Since w1.heap.size wx ∧ wx.rowIs g 5 M (fun j => .int .u8 (z (at' + j) : Nat)))
        case first =>
          by_cases hna : hc = at'
          · subst hna
            obtain rfl : n = hc := by have := h.capn; omega
            obtain rfl : n = E := by omega
            obtain rfl : M = 0 := by omega
            rw [if_pos rfl, Nat.sub_self] at HL
            go_region_held3 (fun W => w1.Since w1.heap.size W ∧ W.cell? ⟨eb, 0, none⟩ = some (.slice (some ⟨hb, ho, none⟩) n n) ∧ W.cell? ⟨eb, 1, none⟩ = some (.int .i64 n))
              ((first | exact ⟨(World.Since.refl _ _).drew, d0, d1⟩ | exact ⟨hs2, (h1.since hs2).c0, (h1.since hs2).c1⟩))
              ((first | (go_at_call 24; refine ((unhide HL) _ (hs1.trans (since_mono (B := w1.heap.size) (World.Since.refl _ _).drew (by omega)))).mono ?_; rintro e w2 ⟨rfl, hs2', hr2⟩; have hs2 : w1.Since w1.heap.size w2 := (World.Since.refl _ _).drew.trans hs2')))
            all_goals
              go_wp2_with fail
              go_meet
              case rel => go_light; exact ⟨_, rfl, hwz, hs2, hr2⟩
          · rw [if_neg hna] at HL
            go_region_held3 (fun W => w1.Since w1.heap.size W ∧ W.cell? ⟨eb, 0, none⟩ = some (.slice (some ⟨hb, ho, none⟩) n hc) ∧ W.cell? ⟨eb, 1, none⟩ = some (.int .i64 at'))
              ((first | exact ⟨(World.Since.refl _ _).drew, d0, d1⟩ | exact ⟨hs2, (h1.since hs2).c0, (h1.since hs2).c1⟩))
              ((first | (go_at_call 24; refine ((unhide HL) _ (hs1.trans (since_mono (B := w1.heap.size) (World.Since.refl _ _).drew (by omega)))).mono ?_; rintro e w2 ⟨rfl, hs2', hr2⟩; have hs2 : w1.Since w1.heap.size w2 := (World.Since.refl _ _).drew.trans hs2')))
            all_goals
              go_wp2_with fail
              go_meet
              case rel => go_light; exact ⟨_, rfl, hwz, hs2, hr2⟩
        case rest =>
          obtain ⟨g, rfl, hg, hs2, hr2⟩ := hcut
          have h2 := h1.since hs2
          have t1 := h2.c1
          have tf := h2.rd.frozen 1
          have hI := h2.setAt (at' + M) (by omega)
          have hsw := hs1.trans (since_mono hs2 hwz)
          have hB : But eb w (wc.setCell ⟨eb, 1, none⟩ (.int .i64 ((at' + M : Nat) : Int))) := (But.of_since hsw).setCell 1 _
          have hge : g ≠ eb := fun e => by
            subst e
            have := hr2.lt
            have hh := h.rd.lt
            omega
          have hT : Txt w.heap.size (wc.setCell ⟨eb, 1, none⟩ (.int .i64 ((at' + M : Nat) : Int))) (some ⟨g, 0, none⟩) M (fun j => z (at' + j)) := Or.inr ⟨g, rfl, hg, hr2.setOther (by show g ≠ eb; exact hge) _⟩
          have ec : ((at' + M : Nat) : Int) = (at' : Int) + (M : Int) := by omega
          rw [ec, hsum] at hI hB hT
          clear HL d0 d1 hlt
          go_wp2_with fail
          go_ret
          exact ⟨⟨_, rfl, hT⟩, hB, hI⟩
  · rw [if_pos hbad]
    have hq : ((bad : Int) != 0) = true := by simp; omega
    go_enter Tryd.func40, Tryd.ntmps40
    go_wp2_with fail
    go_ret
    exact ⟨⟨none, rfl, txt_none _ _ _ _ rfl⟩, But.of_since (World.Since.refl _ _), h⟩
set_option maxHeartbeats 1600000 in
theorem gLast (eb hb ho hc n at' bad : Nat) (z : Nat → Nat) (w : World) (h : IsG w eb hb ho hc n z at' bad) (R : Option Nat) (hR : lastAt (fun j => z (at' + j)) (n - at') 10 0 = R) :
    Calls Tryd.prog 69 #[.pointer (some ⟨eb, 0, none⟩)] w fun e w' => e = .returned (.int .i64 (match R with | none => -1 | some i => ((at' + i : Nat) : Int))) ∧ w.Since w.heap.size w' := by
  have hle := h.le
  have hroom := h.room
  go_enter Tryd.func69, Tryd.ntmps69
  go_wp2_with fail
  go_loopg [3] 10 (fun q s3 wx => ∃ i : Nat, i ≤ 10 ∧ q = 10 - i ∧ s3 = .int .i64 i ∧ w.Since w.heap.size wx ∧ lastAt (fun j => z (at' + j)) (n - at') (10 - i) i = R)
  case atStart => exact ⟨0, by omega, rfl, rfl, World.Since.refl _ _, hR⟩
  case round =>
    obtain ⟨i, hi, rfl, rfl, hs, hv⟩ := hrel
    have h1 := h.since hs
    have c0 := h1.c0
    have c1 := h1.c1
    by_cases h10 : i = 10
    · subst h10
      obtain rfl : none = R := hv
      go_wp2_with fail
      go_quiet (fail)
      go_wp2_with fail
      go_ret
      exact ⟨rfl, since_drewN' hs _⟩
    · obtain ⟨f, hf⟩ : ∃ f, 10 - i = f + 1 := ⟨9 - i, by omega⟩
      rw [hf] at hv
      unfold lastAt at hv
      have hi10 : (i : Int) < 10 := by omega
      obtain ⟨E, hE, hsum⟩ : ∃ E : Nat, at' + i = E ∧ (at' : Int) + (i : Int) = (E : Int) := ⟨at' + i, rfl, by omega⟩
      have hwE : IntKind.i64.wrap (E : Int) = (E : Int) := by rw [IntKind.wrap_i64]; omega
      have hwS : IntKind.i64.wrap ((at' : Int) + (i : Int)) = (E : Int) := by rw [hsum]; exact hwE
      have hf' : f = 9 - i := by omega
      by_cases hin : i < n - at'
      · rw [if_pos hin] at hv
        have hlt : (E : Int) < (n : Int) := by omega
        have cz : wr.cell? ⟨hb, ho + E, none⟩ = some (.int .u8 (z E : Nat)) := h1.cel E (by omega)
        have hv1 : (if z E < 128 then some i else lastAt (fun j => z (at' + j)) (n - at') f (i + 1)) = R := by rw [← hE]; exact hv
        clear hv hf
        go_wp2_with fail
        go_quiet (fail)
        have hs2 := since_drewN' hs nq
        have h2 := h.since hs2
        have c0' := h2.c0
        have c1' := h2.c1
        have cz' : (wr.drewN nq).cell? ⟨hb, ho + E, none⟩ = some (.int .u8 (z E : Nat)) := h2.cel E (by omega)
        generalize wr.drewN nq = wq at *
        clear c0 c1 cz h1
        by_cases hz : z E < 128
        · rw [if_pos hz] at hv1
          subst hv1
          have hz' : (z E : Int) < 128 := by omega
          go_wp2_with fail
          go_quiet (fail)
          have hs3 := since_drewN' hs2 nq
          have c1'' := (h.since hs3).c1
          generalize wq.drewN nq = wq2 at *
          go_wp2_with fail
          go_ret
          exact ⟨ret_int (by first | (simp; omega) | simp), hs3⟩
        · rw [if_neg hz] at hv1
          have hz' : ¬ ((z E : Int) < 128) := by omega
          go_wp2_with fail
          go_quiet (fail)
          have hs3 := since_drewN' hs2 nq
          generalize wq.drewN nq = wq2 at *
          go_wp2_with fail
          go_roundg (10 - (i + 1))
          case measure => go_light; omega
          case rel => go_light; exact ⟨i + 1, by omega, rfl, by simp, hs3, by rw [show 10 - (i + 1) = f by omega]; exact hv1⟩
      · rw [if_neg hin] at hv
        subst hv
        have hlt : ¬ ((E : Int) < (n : Int)) := by omega
        clear hf
        go_wp2_with fail
        go_quiet (fail)
        have hs2 := since_drewN' hs nq
        generalize wr.drewN nq = wq at *
        go_wp2_with fail
        go_ret
        exact ⟨rfl, hs2⟩
end Go.Proofs.YtbmdnlomhnodeabDoor
