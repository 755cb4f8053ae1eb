/- The stage: all. -/
import Derived.Test.YtgpmoakfbhcidaaX10
namespace Go.Proofs.Ytgpmoakfbhcidaa
open Go.RowKit
set_option maxRecDepth 100000
set_option maxRecDepth 100000
set_option maxHeartbeats 3200000 in
theorem all_any {w : World} {B sb bk : Nat} {mark : Bool} {P : Nat → Option PM} {nv vv : Nat → Value} {F : Nat → Nat → Prop} (h : StIs w B sb bk mark P nv vv F) (k : Nat) (hk : k < 2) :
    Calls Try.prog 9 #[.pointer (some ⟨sb, 0, none⟩), .int .i64 (k : Nat)] w fun e w' => e = .returned (.bool true) ∧ Below w.heap.size w w' := by
  have hkz : (k : Int) < 2 := by omega
  have cv := h.cv hk
  cases hP : P k with
  | none =>
    have hp := h.pair k hk
    rw [hP] at hp
    obtain ⟨e1, e2, _⟩ := hp
    rw [e2] at cv
    clear h hP e1 e2
    go_enter Try.func9, Try.ntmps9
    go_wp2_with fail
    go_ret
    exact ⟨rfl, Below.refl _ _⟩
  | some m =>
    obtain ⟨nb, rb, en, ev, _⟩ := h.count hk hP
    have cn := h.cn hk
    rw [ev] at cv
    rw [en] at cn
    have HLEN : Hid (m.ms.length ≤ 8192) := by
      have hp := h.pair k hk
      rw [hP] at hp
      obtain ⟨nb, mv, rb, fv, xs, _, _, hN, _⟩ := hp.go
      have := hN.le
      have := hN.rm
      show m.ms.length ≤ 8192
      omega
    have HCN : Hid (∀ W, Below w.heap.size w W → W.cell? ⟨sb, k, none⟩ = some (.pointer (some ⟨nb, 0, none⟩)) ∧ Hid (Calls Try.prog 34 #[.pointer (some ⟨nb, 0, none⟩)] W fun e w' => e = .returned (.int .i64 (m.ms.length : Nat)) ∧ w' = W) ∧ Hid (Calls Try.prog 16 #[.pointer (some ⟨rb, 0, none⟩)] W fun e w' => e = .returned (.int .i64 (m.ms.length : Nat)) ∧ w' = W) ∧ Hid (Calls Try.prog 35 #[.pointer (some ⟨nb, 0, none⟩)] W fun e w' => e = .returned (.int .u64 (m.lost : Nat)) ∧ w' = W) ∧ Hid (Calls Try.prog 36 #[.pointer (some ⟨rb, 0, none⟩)] W fun e w' => e = .returned (.int .u64 (m.lost : Nat)) ∧ w' = W)) := fun W hb => by
      obtain ⟨nb', rb', en', ev', q⟩ := (h.on hb).count hk hP
      obtain rfl : nb = nb' := by rw [en] at en'; simpa using en'
      obtain rfl : rb = rb' := by rw [ev] at ev'; simpa using ev'
      exact ⟨cel_on hb cn, q⟩
    have HLK : Hid (∀ W (i : Int), Below w.heap.size w W → Calls Try.prog 15 #[.pointer (some ⟨nb, 0, none⟩), .int .i64 i] W fun e w1 => ∃ (x : Int) (a : Option Addr) (n c : Nat) (ok : Bool), e = .returned (.tuple #[.agg #[.int .i64 x, .slice a n c], .bool ok]) ∧ Below w.heap.size w w1 ∧
        Hid (∀ W', Below w1.heap.size w1 W' → Calls Try.prog 27 #[.pointer (some ⟨rb, 0, none⟩), .int .i64 i] W' fun e w2 => ∃ (b : Option Addr) (d : Nat), e = .returned (.tuple #[.agg #[.int .i64 x, .slice b n d], .bool ok]) ∧ Below W'.heap.size W' w2 ∧ Hid (∀ W'', Below w2.heap.size w2 W'' → Calls Try.prog 21 #[.agg #[.int .i64 x, .slice a n c], .agg #[.int .i64 x, .slice b n d]] W'' fun e w3 => e = .returned (.bool true) ∧ Below w.heap.size w w3))) := fun W i hb => by
      obtain ⟨nb', rb', en', ev', q⟩ := (h.on hb).look hk hP
      obtain rfl : nb = nb' := by rw [en] at en'; simpa using en'
      obtain rfl : rb = rb' := by rw [ev] at ev'; simpa using ev'
      refine (q i W (Below.refl _ _)).mono fun e w1 ⟨x, a, n, c, ok, y, he, _, hB1, hn, _, hb1, hr⟩ => ⟨x, a, n, c, ok, he, hb.trans (hb1.mono hb.size), fun W' hW' => (hr.out W' W.heap.size (Fr.of_below hW') (Nat.le_refl _)).mono fun e w2 ⟨b, d, he2, hB2, hb2⟩ => ⟨b, d, he2, hb2, fun W'' hW'' => ?_⟩⟩
      have h12 : Below w1.heap.size w1 W'' := (hW'.trans (hb2.mono hW'.size)).trans (hW''.mono (Nat.le_trans hW'.size hb2.size))
      refine (same_any x a b n c d y W'' (hB1.on h12) (hB2.on hW'') (by omega)).mono fun e w3 ⟨he3, hb3⟩ => ⟨he3, ?_⟩
      have h03 : Below w.heap.size w w1 := hb.trans (hb1.mono hb.size)
      have h04 := h03.trans (h12.mono h03.size)
      exact h04.trans (hb3.mono h04.size)
    obtain ⟨n, Hn⟩ : ∃ n, Hid (m.ms.length = n) := ⟨_, rfl⟩
    rw [Hn.out] at HCN HLEN
    have hn8 := HLEN.out
    clear h hP en ev
    go_enter Try.func9, Try.ntmps9
    go_wp2_with fail
    go_loopg [6] (n + 2) (fun q s6 wx => ∃ (c : Nat) (z : Int), c ≤ n + 2 ∧ q = n + 2 - c ∧ z + 1 = (c : Int) ∧ s6 = .int .i64 z ∧ Below w.heap.size w wx)
    case atStart => exact ⟨0, -1, Nat.zero_le _, rfl, rfl, rfl, Below.refl _ _⟩
    case round =>
      clear cn cv
      obtain ⟨c, z, hc, rfl, hzc, rfl, hb⟩ := hrel
      obtain ⟨cn, L1, L2, L3, L4⟩ := HCN.out wr hb
      by_cases hlt : c ≤ n + 1
      · have hzn : z ≤ (n : Int) := by omega
        have hwz : IntKind.i64.wrap (z + 1) = z + 1 := by rw [IntKind.wrap_i64]; omega
        have hlk := HLK.out wr z hb
        have HC : Hid (z + 1 = (c : Int)) := hzc
        clear HCN HLK L1 L3 L4 hzc
        go_wp2_with fail
        refine L2.out.mono ?_
        rintro e w1 ⟨rfl, e1⟩
        subst e1
        go_wp2_with fail
        refine hlk.mono ?_
        rintro e w2 ⟨x, fa, fn, fc, ok, rfl, hb2, HR⟩
        obtain ⟨W3, HW3⟩ : ∃ W, Hid (w2.alloc (.cells #[.int .i64 x, .slice fa fn fc] 70) = W) := ⟨_, rfl⟩
        have hb3 : Below w2.heap.size w2 W3 := by rw [← HW3.out]; exact (Below.refl _ _).alloc (Nat.le_refl _) _
        have hr3 := row2_alloc w2 (.int .i64 x) (.slice fa fn fc) 70
        rw [HW3.out] at hr3
        have hrl := HR.out W3 hb3
        have HR3 : Hid (∀ W, Below W3.heap.size W3 W → W.cell? ⟨w2.heap.size, 0, none⟩ = some (.int .i64 x) ∧ W.cell? ⟨w2.heap.size, 1, none⟩ = some (.slice fa fn fc)) := fun W hb => by
          have := hr3.of_block (hb.block w2.heap.size hr3.lt)
          exact ⟨this.cell (i := 0) (by decide), this.cell (i := 1) (by decide)⟩
        clear HR hlk hb3 hr3 L2 hb2
        go_upto_region 8 with fail
        rw [HW3.out]
        go_wp2_with fail
        refine hrl.mono ?_
        rintro e w4 ⟨fb, fd, rfl, hb4, HSM⟩
        obtain ⟨W5, HW5⟩ : ∃ W, Hid (w4.alloc (.cells #[.int .i64 x, .slice fb fn fd] 70) = W) := ⟨_, rfl⟩
        have hb5 : Below w4.heap.size w4 W5 := by rw [← HW5.out]; exact (Below.refl _ _).alloc (Nat.le_refl _) _
        have hr5 := row2_alloc w4 (.int .i64 x) (.slice fb fn fd) 70
        rw [HW5.out] at hr5
        have v0 : W5.cell? ⟨w4.heap.size, 0, none⟩ = some (.int .i64 x) := hr5.cell (i := 0) (by decide)
        have v1 : W5.cell? ⟨w4.heap.size, 1, none⟩ = some (.slice fb fn fd) := hr5.cell (i := 1) (by decide)
        obtain ⟨u0, u1⟩ := HR3.out W5 (hb4.trans (hb5.mono hb4.size))
        have hsm := HSM.out W5 hb5
        have hoo : (ok != ok) = false := by simp
        clear hrl HSM hb5 hr5 HR3 hb4
        go_upto_region 9 with fail
        rw [HW5.out]
        go_wp2_with fail
        refine hsm.mono ?_
        rintro e w6 ⟨rfl, hb6⟩
        clear hsm u0 u1 v0 v1
        go_wp2_with fail
        go_roundg (n + 2 - (c + 1))
        case measure => go_light; omega
        case rel => go_light; exact ⟨c + 1, z + 1, by omega, rfl, by have := HC.out; omega, by simp, hb6⟩
      · have hzn : ¬ z ≤ (n : Int) := by omega
        clear HCN HLK hzc
        go_wp2_with fail
        refine L2.out.mono ?_
        rintro e w1 ⟨rfl, e1⟩
        subst e1
        go_wp2_with fail
        refine L1.out.mono ?_
        rintro e w2 ⟨rfl, e2⟩
        subst e2
        go_wp2_with fail
        refine L2.out.mono ?_
        rintro e w3 ⟨rfl, e3⟩
        subst e3
        go_wp2_with fail
        refine L3.out.mono ?_
        rintro e w4 ⟨rfl, e4⟩
        subst e4
        go_wp2_with fail
        refine L4.out.mono ?_
        rintro e w5 ⟨rfl, e5⟩
        subst e5
        go_wp2_with fail
        go_ret
        exact ⟨rfl, hb⟩
end Go.Proofs.Ytgpmoakfbhcidaa
