/- Stage 4's laws: DiskLoaded. -/
import Derived.Test.YtbebnjeamlmclaaD11
namespace Go.Proofs.Ytbebnjeamlmclaa
open Go.RowKit Go.Maps Go.Sort
set_option maxRecDepth 100000
set_option maxRecDepth 100000

theorem dl_le (dl : Nat → Nat) {n i : Nat} (h : i < n) : dl i ≤ sumL dl n := by
  have h1 := sumL_mono dl (i := i + 1) (n := n) (by omega)
  have h2 : sumL dl (i + 1) = sumL dl i + dl i := rfl
  omega

/-- The law's argument in its box. -/
structure Box (W1 : World) (tb : Nat) (fa : Option Addr) (n fc : Nat) (room : Int) (pa : Option Addr) (pn pc : Nat) (nm : Nat → ByteArray) (dl : Nat → Nat) (dx : Nat → Nat → Nat) (W : World) : Prop where
  b : Below W1.heap.size W1 W
  c0 : W.cell? ⟨tb, 0, none⟩ = some (.slice fa n fc)
  c1 : W.cell? ⟨tb, 1, none⟩ = some (.int .i64 room)
  c2 : W.cell? ⟨tb, 2, none⟩ = some (.slice pa pn pc)
  src : Src W fa n nm dl dx
  pk : Picks W pa pn
theorem Box.on {W1 : World} {tb : Nat} {fa : Option Addr} {n fc : Nat} {room : Int} {pa : Option Addr} {pn pc : Nat} {nm : Nat → ByteArray} {dl : Nat → Nat} {dx : Nat → Nat → Nat} {W W' : World} (h : Box W1 tb fa n fc room pa pn pc nm dl dx W) (hb : Below W.heap.size W W') : Box W1 tb fa n fc room pa pn pc nm dl dx W' :=
  ⟨h.b.trans (hb.mono h.b.size), cel_on hb h.c0, cel_on hb h.c1, cel_on hb h.c2, h.src.on hb, h.pk.on hb⟩
theorem Box.drewN {W1 : World} {tb : Nat} {fa : Option Addr} {n fc : Nat} {room : Int} {pa : Option Addr} {pn pc : Nat} {nm : Nat → ByteArray} {dl : Nat → Nat} {dx : Nat → Nat → Nat} {W : World} (h : Box W1 tb fa n fc room pa pn pc nm dl dx W) (m : Nat) : Box W1 tb fa n fc room pa pn pc nm dl dx (W.drewN m) := h.on (below_drewN (Below.refl _ _) m)
theorem box_new (w : World) (fa : Option Addr) (n fc : Nat) (room : Int) (pa : Option Addr) (pn pc : Nat) (nm : Nat → ByteArray) (dl : Nat → Nat) (dx : Nat → Nat → Nat) (hs : Src w fa n nm dl dx) (hp : Picks w pa pn) :
    Box (w.alloc (.cells #[.slice fa n fc, .int .i64 room, .slice pa pn pc] 25)) w.heap.size fa n fc room pa pn pc nm dl dx (w.alloc (.cells #[.slice fa n fc, .int .i64 room, .slice pa pn pc] 25)) :=
  ⟨Below.refl _ _, World.cell?_alloc_at (w := w) _ _ _ 0 rfl, World.cell?_alloc_at (w := w) _ _ _ 1 rfl, World.cell?_alloc_at (w := w) _ _ _ 2 rfl, hs.on ((Below.refl _ _).alloc (Nat.le_refl _) _), hp.on ((Below.refl _ _).alloc (Nat.le_refl _) _)⟩

set_option maxHeartbeats 12800000 in
theorem loadedNeg (fa : Option Addr) (n fc : Nat) (room : Int) (pa : Option Addr) (pn pc : Nat) (nm : Nat → ByteArray) (dl : Nat → Nat) (dx : Nat → Nat → Nat) (w : World) (hs : Src w fa n nm dl dx) (hp : Picks w pa pn) (hn : n ≤ 1048576) (hsz : ∀ i, i < n → (nm i).size ≤ 1048576) (hsum : sumL dl n ≤ 1048576) (hr : room < 0) :
    Calls Try.prog 3 #[.agg #[.slice fa n fc, .int .i64 room, .slice pa pn pc]] w fun e w' => e = .returned (.bool true) ∧ Below w.heap.size w w' := by
  have hbx := box_new w fa n fc room pa pn pc nm dl dx hs hp
  have HD : Hid (∀ i, i < n → dl i ≤ 1048576) := fun i hi => Nat.le_trans (dl_le dl hi) hsum
  have HSZ : Hid (∀ i, i < n → (nm i).size ≤ 1048576) := hsz
  have hb0 : Below w.heap.size w (w.alloc (.cells #[.slice fa n fc, .int .i64 room, .slice pa pn pc] 25)) := (Below.refl _ _).alloc (Nat.le_refl _) _
  have HSU : Hid (∀ i, i ≤ n → sumL dl i ≤ 1048576) := fun i hi => Nat.le_trans (sumL_mono dl hi) hsum
  have hnz : (n : Int) ≤ 1048576 := by omega
  clear hs hp hsz hsum
  go_enter Try.func3, Try.ntmps3
  go_upto_region 1 with fail
  generalize w.alloc (.cells #[.slice fa n fc, .int .i64 room, .slice pa pn pc] 25) = W1 at *
  have HBW : Hid (∀ W, Below W1.heap.size W1 W → Below w.heap.size w W) := fun W hb => hb0.trans (hb.mono hb0.size)
  generalize w.heap.size = tb at hbx ⊢
  clear hb0
  have c1 := hbx.c1
  have hg : decide ((0 : Int) ≤ room) = false := decide_eq_false (by omega)
  have hg2 : ¬ (0 : Int) ≤ room := by omega
  go_quiet (fail)
  have hbx2 := hbx.drewN nq
  clear hbx c1
  go_wp2_with fail
  go_loopg [3, 4, 6] n (fun q s3 s4 s6 wx => ∃ (i : Nat), i ≤ n ∧ q = n - i ∧ s6 = .int .i64 i ∧ s3 = .int .i64 (sumL dl i : Nat) ∧ s4 = .bool false ∧ Box W1 tb fa n fc room pa pn pc nm dl dx wx)
  case atStart => exact ⟨0, Nat.zero_le _, rfl, rfl, rfl, rfl, hbx2⟩
  case round =>
    obtain ⟨i, hi, rfl, rfl, rfl, rfl, hb⟩ := hrel
    clear hbx2
    have d0 := hb.c0
    have d1 := hb.c1
    by_cases hlt : i < n
    · have hz : (i : Int) < (n : Int) := by omega
      obtain ⟨b, o, rfl, k1, da, dc, k2, _, _⟩ := hb.src i hlt
      obtain ⟨S1, hS1, hS2⟩ : ∃ S1 : Nat, ((sumL dl i : Nat) : Int) + ((dl i : Nat) : Int) = (S1 : Int) ∧ S1 = sumL dl (i + 1) := ⟨sumL dl (i + 1), by show _ = ((sumL dl i + dl i : Nat) : Int); omega, rfl⟩
      have hwS : IntKind.i64.wrap (S1 : Int) = (S1 : Int) := by have := HSU.out (i + 1) (by omega); rw [IntKind.wrap_i64]; omega
      have HSUM : Hid (Value.int .i64 (S1 : Int) = .int .i64 (sumL dl (i + 1) : Nat)) := by rw [hS2]; exact rfl
      clear hS2
      generalize sumL dl i = S0 at *
      go_upto_region 9 with fail
      go_quiet (fail)
      go_wp2_with fail
      go_roundg (n - (i + 1))
      case measure => go_light; omega
      case rel => go_light; exact ⟨i + 1, by omega, rfl, by simp, HSUM.out, rfl, hb.drewN _⟩
    · obtain rfl : n = i := by omega
      have HGV : Hid (∀ W, Box W1 tb fa n fc room pa pn pc nm dl dx W → Calls Try.prog 9 #[.slice fa n fc] W fun e w' => ∃ gb cap, e = .returned (.slice (some ⟨gb, 0, none⟩) n cap) ∧ (∃ lg lc fl, Giv w' gb cap n nm dl dx lg lc fl) ∧ Below W.heap.size W w') := fun W h => given_any fa n fc nm dl dx W h.src hn HD.out
      have HLD : Hid (∀ W gb cap, Img W (some ⟨gb, 0, none⟩) n nm dl dx → Calls Try.prog 10 #[.slice (some ⟨gb, 0, none⟩) n cap, .int .i64 room] W fun e w' => e = .returned (.tuple #[.pointer none, .int .i64 40]) ∧ Below W.heap.size W w') := fun W gb cap _ => load_room _ n cap room W (.inl hr)
      go_wp2_with fail
      refine (HGV.out _ hb).mono ?_
      rintro e w2 ⟨gb, cap, rfl, ⟨lg, lc, fl, hG⟩, hb2⟩
      have hbB := hb.on hb2
      have hld := HLD.out w2 gb cap hG.img
      have e1 := hbB.c1
      clear HGV HLD d0 d1
      go_wp2_with fail
      refine hld.mono ?_
      rintro e w3 ⟨rfl, hb3⟩
      have hbC := hbB.on hb3
      have e0 := hbC.c0
      have hut := untouched_any gb cap n fa fc nm dl dx lg lc fl w3 (hG.on hb3) hbC.src hn HD.out
      clear hld e1 hG
      go_wp2_with fail
      refine hut.mono ?_
      rintro e w4 ⟨rfl, m4, rfl⟩
      have hnm := num_any 40 (w3.drewN m4)
      clear hut e0
      go_wp2_with fail
      refine hnm.mono ?_
      rintro e w5 ⟨rfl, rfl⟩
      go_wp2_with fail
      go_ret
      exact ⟨rfl, HBW.out _ (below_drewN hbC.b _)⟩
set_option maxHeartbeats 12800000 in
theorem loadedBig (fa : Option Addr) (n fc : Nat) (room : Int) (pa : Option Addr) (pn pc : Nat) (nm : Nat → ByteArray) (dl : Nat → Nat) (dx : Nat → Nat → Nat) (w : World) (hs : Src w fa n nm dl dx) (hp : Picks w pa pn) (hn : n ≤ 1048576) (hsz : ∀ i, i < n → (nm i).size ≤ 1048576) (hsum : sumL dl n ≤ 1048576) (hr : 67108864 < room) :
    Calls Try.prog 3 #[.agg #[.slice fa n fc, .int .i64 room, .slice pa pn pc]] w fun e w' => e = .returned (.bool true) ∧ Below w.heap.size w w' := by
  have hbx := box_new w fa n fc room pa pn pc nm dl dx hs hp
  have HD : Hid (∀ i, i < n → dl i ≤ 1048576) := fun i hi => Nat.le_trans (dl_le dl hi) hsum
  have HSZ : Hid (∀ i, i < n → (nm i).size ≤ 1048576) := hsz
  have hb0 : Below w.heap.size w (w.alloc (.cells #[.slice fa n fc, .int .i64 room, .slice pa pn pc] 25)) := (Below.refl _ _).alloc (Nat.le_refl _) _
  have HSU : Hid (∀ i, i ≤ n → sumL dl i ≤ 1048576) := fun i hi => Nat.le_trans (sumL_mono dl hi) hsum
  have hnz : (n : Int) ≤ 1048576 := by omega
  clear hs hp hsz hsum
  go_enter Try.func3, Try.ntmps3
  go_upto_region 1 with fail
  generalize w.alloc (.cells #[.slice fa n fc, .int .i64 room, .slice pa pn pc] 25) = W1 at *
  have HBW : Hid (∀ W, Below W1.heap.size W1 W → Below w.heap.size w W) := fun W hb => hb0.trans (hb.mono hb0.size)
  generalize w.heap.size = tb at hbx ⊢
  clear hb0
  have c1 := hbx.c1
  have hg : (0 : Int) ≤ room := by omega
  have hg2 : ¬ room ≤ 67108864 := by omega
  go_quiet (fail)
  have hbx2 := hbx.drewN nq
  clear hbx c1
  go_wp2_with fail
  go_loopg [3, 4, 6] n (fun q s3 s4 s6 wx => ∃ (i : Nat), i ≤ n ∧ q = n - i ∧ s6 = .int .i64 i ∧ s3 = .int .i64 (sumL dl i : Nat) ∧ s4 = .bool false ∧ Box W1 tb fa n fc room pa pn pc nm dl dx wx)
  case atStart => exact ⟨0, Nat.zero_le _, rfl, rfl, rfl, rfl, hbx2⟩
  case round =>
    obtain ⟨i, hi, rfl, rfl, rfl, rfl, hb⟩ := hrel
    clear hbx2
    have d0 := hb.c0
    have d1 := hb.c1
    by_cases hlt : i < n
    · have hz : (i : Int) < (n : Int) := by omega
      obtain ⟨b, o, rfl, k1, da, dc, k2, _, _⟩ := hb.src i hlt
      obtain ⟨S1, hS1, hS2⟩ : ∃ S1 : Nat, ((sumL dl i : Nat) : Int) + ((dl i : Nat) : Int) = (S1 : Int) ∧ S1 = sumL dl (i + 1) := ⟨sumL dl (i + 1), by show _ = ((sumL dl i + dl i : Nat) : Int); omega, rfl⟩
      have hwS : IntKind.i64.wrap (S1 : Int) = (S1 : Int) := by have := HSU.out (i + 1) (by omega); rw [IntKind.wrap_i64]; omega
      have HSUM : Hid (Value.int .i64 (S1 : Int) = .int .i64 (sumL dl (i + 1) : Nat)) := by rw [hS2]; exact rfl
      clear hS2
      generalize sumL dl i = S0 at *
      go_upto_region 9 with fail
      go_quiet (fail)
      go_wp2_with fail
      go_roundg (n - (i + 1))
      case measure => go_light; omega
      case rel => go_light; exact ⟨i + 1, by omega, rfl, by simp, HSUM.out, rfl, hb.drewN _⟩
    · obtain rfl : n = i := by omega
      have HGV : Hid (∀ W, Box W1 tb fa n fc room pa pn pc nm dl dx W → Calls Try.prog 9 #[.slice fa n fc] W fun e w' => ∃ gb cap, e = .returned (.slice (some ⟨gb, 0, none⟩) n cap) ∧ (∃ lg lc fl, Giv w' gb cap n nm dl dx lg lc fl) ∧ Below W.heap.size W w') := fun W h => given_any fa n fc nm dl dx W h.src hn HD.out
      have HLD : Hid (∀ W gb cap, Img W (some ⟨gb, 0, none⟩) n nm dl dx → Calls Try.prog 10 #[.slice (some ⟨gb, 0, none⟩) n cap, .int .i64 room] W fun e w' => e = .returned (.tuple #[.pointer none, .int .i64 40]) ∧ Below W.heap.size W w') := fun W gb cap _ => load_room _ n cap room W (.inr hr)
      go_wp2_with fail
      refine (HGV.out _ hb).mono ?_
      rintro e w2 ⟨gb, cap, rfl, ⟨lg, lc, fl, hG⟩, hb2⟩
      have hbB := hb.on hb2
      have hld := HLD.out w2 gb cap hG.img
      have e1 := hbB.c1
      clear HGV HLD d0 d1
      go_wp2_with fail
      refine hld.mono ?_
      rintro e w3 ⟨rfl, hb3⟩
      have hbC := hbB.on hb3
      have e0 := hbC.c0
      have hut := untouched_any gb cap n fa fc nm dl dx lg lc fl w3 (hG.on hb3) hbC.src hn HD.out
      clear hld e1 hG
      go_wp2_with fail
      refine hut.mono ?_
      rintro e w4 ⟨rfl, m4, rfl⟩
      have hnm := num_any 40 (w3.drewN m4)
      clear hut e0
      go_wp2_with fail
      refine hnm.mono ?_
      rintro e w5 ⟨rfl, rfl⟩
      go_wp2_with fail
      go_ret
      exact ⟨rfl, HBW.out _ (below_drewN hbC.b _)⟩
end Go.Proofs.Ytbebnjeamlmclaa
