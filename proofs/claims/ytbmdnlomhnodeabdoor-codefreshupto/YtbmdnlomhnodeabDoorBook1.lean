/- The marks of a Book; append of one byte, and what it leaves. -/
import Derived.Test.YtbmdnlomhnodeabDoorPairs
import Derived.Laws.OwnMore
namespace Go.Proofs.YtbmdnlomhnodeabDoor
open Go.RowKit
set_option maxRecDepth 100000

/-- Byte k of the mark of list n. -/
def mrk (n k : Nat) : Nat := if k % 2 = 0 then 1 + n % 251 else 1 + (7 * n + n / 251) % 251
theorem mrk_lt (n k : Nat) : mrk n k < 256 := by
  unfold mrk
  split <;> omega
theorem at_any' (n k : Nat) (w : World) (hn : n ≤ 1000000000) : Calls Tryd.prog 71 #[.int .i64 n, .int .i64 k] w fun e w' => e = .returned (.int .u8 (mrk n k : Nat)) ∧ w' = w := by
  by_cases h2 : k % 2 = 0
  · have e : mrk n k = 1 + n % 251 := if_pos h2
    rw [e]
    have h1 : Int.tmod (k : Int) 2 = 0 := by
      have := Int.ofNat_tmod k 2
      rw [h2] at this
      exact this.symm
    obtain ⟨r, hr, hr2⟩ : ∃ r : Nat, Int.tmod (n : Int) 251 = (r : Int) ∧ r = n % 251 := ⟨n % 251, (Int.ofNat_tmod n 251).symm, rfl⟩
    obtain ⟨q, hq, hq2⟩ : ∃ q : Nat, (1 : Int) + (r : Int) = (q : Int) ∧ q = 1 + r := ⟨1 + r, by omega, rfl⟩
    have hw : IntKind.i64.wrap (q : Int) = (q : Int) := by rw [IntKind.wrap_i64]; omega
    have hw8 : IntKind.u8.wrap (q : Int) = (q : Int) := by rw [IntKind.wrap_u8']; omega
    have hfin : q = 1 + n % 251 := by omega
    clear hq2 hr2
    rw [← hfin]
    clear hfin
    go_enter Tryd.func71, Tryd.ntmps71
    go_wp2_with fail
    go_ret
    exact ⟨rfl, rfl⟩
  · have e : mrk n k = 1 + (7 * n + n / 251) % 251 := if_neg h2
    rw [e]
    have h1 : Int.tmod (k : Int) 2 = 1 := by
      have := Int.ofNat_tmod k 2
      rw [show k % 2 = 1 by omega] at this
      exact this.symm
    obtain ⟨s, hs, hs2⟩ : ∃ s : Nat, (7 : Int) * (n : Int) = (s : Int) ∧ s = 7 * n := ⟨7 * n, by omega, rfl⟩
    have hws : IntKind.i64.wrap (s : Int) = (s : Int) := by rw [IntKind.wrap_i64]; omega
    obtain ⟨d, hd, hd2⟩ : ∃ d : Nat, Int.tdiv (n : Int) 251 = (d : Int) ∧ d = n / 251 := ⟨n / 251, (Int.ofNat_tdiv n 251).symm, rfl⟩
    obtain ⟨c, hc, hc2⟩ : ∃ c : Nat, (s : Int) + (d : Int) = (c : Int) ∧ c = s + d := ⟨s + d, by omega, rfl⟩
    have hwd : IntKind.i64.wrap (d : Int) = (d : Int) := by rw [IntKind.wrap_i64]; omega
    have hwc : IntKind.i64.wrap (c : Int) = (c : Int) := by rw [IntKind.wrap_i64]; omega
    obtain ⟨r, hr, hr2⟩ : ∃ r : Nat, Int.tmod (c : Int) 251 = (r : Int) ∧ r = c % 251 := ⟨c % 251, (Int.ofNat_tmod c 251).symm, rfl⟩
    obtain ⟨q, hq, hq2⟩ : ∃ q : Nat, (1 : Int) + (r : Int) = (q : Int) ∧ q = 1 + r := ⟨1 + r, by omega, rfl⟩
    have hw : IntKind.i64.wrap (q : Int) = (q : Int) := by rw [IntKind.wrap_i64]; omega
    have hw8 : IntKind.u8.wrap (q : Int) = (q : Int) := by rw [IntKind.wrap_u8']; omega
    have hfin : q = 1 + (7 * n + n / 251) % 251 := by omega
    clear hq2 hr2 hc2 hd2 hs2
    rw [← hfin]
    clear hfin
    go_enter Tryd.func71, Tryd.ntmps71
    go_wp2_with fail
    go_ret
    exact ⟨rfl, rfl⟩
/-- append OF ONE BYTE: in its own room, or into new memory with the old left as it was. -/
theorem app_mark (w : World) (B : Nat) (v : Value) (n : Nat) (x : Nat → Nat) (hown : Own w B v n x) (g c : Nat) (hc : w.cell? ⟨g, 0, none⟩ = some (.int .u8 (c : Nat))) (hmax : n + 1 ≤ 140737488355328) (hB : B ≤ w.heap.size) :
    ∃ v' w', (Builtin.append_ #[22, 22] 22 #[v, .slice (some ⟨g, 0, none⟩) 1 1]).run Tryd.prog w = .ok v' w' ∧ Own w' B v' (n + 1) (cat x n (fun _ => c)) ∧ w.grownBy w' v.ownBlock ∧ (v'.ownBlock = v.ownBlock ∨ (v'.ownBlock = some w.heap.size ∧ w.Since w.heap.size w')) := by
  have hb : Byt w (some ⟨g, 0, none⟩) 1 (fun _ => c) := fun j hj => ⟨g, 0, rfl, by
    obtain rfl : j = 0 := by omega
    exact hc⟩
  obtain ⟨v', w', hr, ho, hg, hl⟩ := app_at w B v n x hown (some ⟨g, 0, none⟩) 1 1 (fun _ => c) hb (fun e => by cases e) hmax hB
  refine ⟨v', w', hr, ho, hg, ?_⟩
  rcases hl with e | e
  · exact Or.inl e
  · rcases hown.2 with ⟨rfl, _⟩ | ⟨q, cap, cur, rfl, hbg, hq, hnc, hcm, hcs, htake⟩
    · exact Or.inr ⟨e, hg.os, hg.tape, hg.output, hg.size, fun k hk => hg.block k hk (by simp [Value.ownBlock])⟩
    · obtain ⟨i0, hi, hz0, hz1, hz2⟩ := info_parts Tryd.info5
      have hnews : ∀ j u, [Value.int .u8 (c : Nat)][j]? = some u → w.cell? ((⟨g, 0, none⟩ : Addr).add j) = some u := fun j u hu => by
        match j with
        | 0 =>
          have : u = .int .u8 (c : Nat) := by simpa using hu.symm
          rw [this]
          simpa [Addr.add] using hc
        | j + 1 => simp at hu
      by_cases hroom : n + 1 ≤ cap
      · have hr2 := run_append_room (P := Tryd.prog) w 22 22 5 i0 Tryd.underlying22 hi q n cap cur hq ⟨g, 0, none⟩ 1 1 [.int .u8 (c : Nat)] (by rw [hz1]; rfl) hnews (fun u hu => by
          have : u = .int .u8 (c : Nat) := by simpa using hu
          rw [this]; rfl) hroom (by rw [hz1, hcs]; show n * 1 + 1 ≤ cap * 1; omega)
        rw [hr2] at hr
        cases hr
        exact Or.inl rfl
      · have hr2 := run_append_grow (P := Tryd.prog) w 22 22 5 i0 (.int .u8 0) Tryd.underlying22 hi hz0 ⟨q, 0, none⟩ n cap (cellsOf n x) (by rw [hz1]; exact hown.1) (hown.cells (g := q) rfl) ⟨g, 0, none⟩ 1 1 [.int .u8 (c : Nat)] (by rw [hz1]; rfl) hnews (by omega) (by omega) (by rw [hz2]; exact growslice_fits (by omega) (by omega))
        rw [hr2] at hr
        cases hr
        exact Or.inr ⟨rfl, rfl, rfl, rfl, by simp, fun k hk => heap_alloc_old w.drew _ hk⟩
end Go.Proofs.YtbmdnlomhnodeabDoor
