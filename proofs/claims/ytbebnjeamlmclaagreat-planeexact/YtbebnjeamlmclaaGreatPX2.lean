/- Stage 3's laws: PlaneExact. -/
import Derived.Test.YtbebnjeamlmclaaGreatPX1
import Derived.Test.YtbebnjeamlmclaaGreatShelf6
namespace Go.Proofs.YtbebnjeamlmclaaGreat
open Go.RowKit Go.Shelf Go.Sort
set_option maxRecDepth 100000
set_option maxRecDepth 100000

theorem into_any (n m : Int) (hm : 0 < m) (hm9 : m ≤ 9) (w : World) : Calls Tryz.prog 5 #[.int .i64 n, .int .i64 m] w fun e w' => ∃ k : Nat, e = .returned (.int .i64 k) ∧ (k : Int) < m ∧ w' = w := by
  obtain ⟨r, hr⟩ : ∃ r, n.tmod m = r := ⟨_, rfl⟩
  have hb : r.natAbs < m.natAbs := by rw [← hr, Int.natAbs_tmod]; exact Nat.mod_lt _ (by omega)
  have h0 : (m == 0) = false := beq_eq_false_iff_ne.2 (by omega)
  have h0' : ¬ m = 0 := by omega
  by_cases hneg : r < 0
  · obtain ⟨k, hk⟩ : ∃ k : Nat, r + m = k := ⟨(r + m).toNat, by omega⟩
    have hw : IntKind.i64.wrap (r + m) = (k : Int) := by rw [hk, IntKind.wrap_i64]; omega
    have hkm : (k : Int) < m := by omega
    clear hk hb
    go_enter Tryz.func5, Tryz.ntmps5
    go_wp2
    go_ret
    exact ⟨k, rfl, hkm, rfl⟩
  · obtain ⟨k, rfl⟩ : ∃ k : Nat, r = k := ⟨r.toNat, by omega⟩
    have hkm : (k : Int) < m := by omega
    clear hb
    go_enter Tryz.func5, Tryz.ntmps5
    go_wp2
    go_ret
    exact ⟨k, rfl, hkm, rfl⟩

/-- The script, as it lies in memory. -/
def Asks (w : World) (lb lo L : Nat) : Prop := ∀ i, i < L → ∃ D A B C PX PY QX QY : Int, w.cell? ⟨lb, lo + i * 8, none⟩ = some (.int .i64 D) ∧ w.cell? ⟨lb, lo + i * 8 + 1, none⟩ = some (.int .i64 A) ∧ w.cell? ⟨lb, lo + i * 8 + 2, none⟩ = some (.int .i64 B) ∧ w.cell? ⟨lb, lo + i * 8 + 3, none⟩ = some (.int .i64 C) ∧ w.cell? ⟨lb, lo + i * 8 + 4, none⟩ = some (.int .i64 PX) ∧ w.cell? ⟨lb, lo + i * 8 + 5, none⟩ = some (.int .i64 PY) ∧ w.cell? ⟨lb, lo + i * 8 + 6, none⟩ = some (.int .i64 QX) ∧ w.cell? ⟨lb, lo + i * 8 + 7, none⟩ = some (.int .i64 QY)

def bookZero : Array Value := #[.slice none 0 0, .slice none 0 0, .int .i64 0, .slice none 0 0, .slice none 0 0, .int .i64 0, .slice none 0 0, .slice none 0 0, .int .i64 0, .slice none 0 0, .slice none 0 0, .int .i64 0, .slice none 0 0, .slice none 0 0, .int .i64 0, .slice none 0 0, .slice none 0 0, .int .i64 0, .slice none 0 0, .slice none 0 0, .int .i64 0, .slice none 0 0, .slice none 0 0, .int .i64 0, .slice none 0 0, .slice none 0 0, .int .i64 0, .slice none 0 0, .slice none 0 0, .int .i64 0, .slice none 0 0, .slice none 0 0, .int .i64 0, .slice none 0 0, .slice none 0 0, .int .i64 0, .int .i64 0, .int .i64 0, .int .i64 0]
theorem bookZero_at : ∀ i, i < 39 → bookZero[i]? = some (ibCell (.slice none 0 0) (.slice none 0 0) 0 0 0 0 i)
  | 0, _ => rfl | 1, _ => rfl | 2, _ => rfl | 3, _ => rfl | 4, _ => rfl | 5, _ => rfl | 6, _ => rfl | 7, _ => rfl | 8, _ => rfl | 9, _ => rfl
  | 10, _ => rfl | 11, _ => rfl | 12, _ => rfl | 13, _ => rfl | 14, _ => rfl | 15, _ => rfl | 16, _ => rfl | 17, _ => rfl | 18, _ => rfl | 19, _ => rfl
  | 20, _ => rfl | 21, _ => rfl | 22, _ => rfl | 23, _ => rfl | 24, _ => rfl | 25, _ => rfl | 26, _ => rfl | 27, _ => rfl | 28, _ => rfl | 29, _ => rfl
  | 30, _ => rfl | 31, _ => rfl | 32, _ => rfl | 33, _ => rfl | 34, _ => rfl | 35, _ => rfl | 36, _ => rfl | 37, _ => rfl | 38, _ => rfl
  | n + 39, h => by omega
theorem bk_new {w W : World} (hb : RowKit.Below w.heap.size w W) : Bk w W.heap.size 0 (W.alloc (.cells bookZero 52)) := by
  have rK : (W.alloc (.cells bookZero 52)).rowIs W.heap.size 52 39 (ibCell (.slice none 0 0) (.slice none 0 0) 0 0 0 0) := World.rowIs_alloc W bookZero _ _ bookZero_at
  exact ⟨0, fun _ => none, fun _ => 0, fun _ => 0, fun _ => 0, .slice none 0 0, .slice none 0 0, 0, 0, 0, 0, ⟨⟨rK, ⟨rfl, Or.inl ⟨rfl, rfl⟩⟩, ⟨rfl, Or.inl ⟨rfl, rfl⟩⟩, fun i hi => absurd hi (Nat.not_lt_zero _), fun i _ hi => absurd hi (Nat.not_lt_zero _), fun i a hi => absurd hi (Nat.not_lt_zero _), fun i j a a' _ hi => absurd hi (Nat.not_lt_zero _), ⟨by simp [Value.ownBlock], by simp [Value.ownBlock]⟩, fun k e => by simp [Value.ownBlock] at e, Nat.le_refl _, hb.size, fun i hi => absurd hi (Nat.not_lt_zero _)⟩, Nat.le_refl _, Nat.le_refl _, by decide, fun i hi => absurd hi (Nat.not_lt_zero _), fun i _ hi => absurd hi (Nat.not_lt_zero _)⟩, Nat.le_refl _, hb.alloc hb.size _⟩

def shelfZero : Array Value := #[.int .i64 0, .slice none 0 0, .slice none 0 0, .slice none 0 0, .slice none 0 0, .slice none 0 0, .slice none 0 0, .slice none 0 0, .slice none 0 0, .slice none 0 0, .slice none 0 0]
theorem shelfZero_at : ∀ i, i < 11 → shelfZero[i]? = some (shCell ((0 : Nat) : Int) (.slice none 0 0) (.slice none 0 0) i)
  | 0, _ => rfl | 1, _ => rfl | 2, _ => rfl | 3, _ => rfl | 4, _ => rfl | 5, _ => rfl | 6, _ => rfl | 7, _ => rfl | 8, _ => rfl | 9, _ => rfl
  | 10, _ => rfl
  | n + 11, h => by omega
theorem sh_new (w : World) : Sh w (w.alloc (.cells shelfZero 30)) w.heap.size 0 0 0 (.slice none 0 0) (.slice none 0 0) [] [] where
  row := World.rowIs_alloc w shelfZero _ _ shelfZero_at
  xbl := Nat.le_refl _
  k := ⟨(RowKit.Below.refl _ _).alloc (Nat.le_refl _) _, World.ownsRow_nil _ _ _ _, fun j v h => by simp at h, fun a b v u _ h => by simp at h⟩
  orow := World.ownsRow_nil _ _ _ _
  ko := fun b e => by simp [Value.ownBlock] at e
  same := fun p v u h => by simp at h

/-- An operation that yields a value in whatever world, by its run. -/
theorem oper_run {P : Program} {o : Oper} {a : Act} {w : World} {K : Act → World → Prop} {Q : Exit → Act → World → Prop} (v : Value) (hrun : (execOp a.eval o).run P w = .ok (.value v) w) (h : K (a.put o.dst v) w) : Oper.wp P o a w K Q := by
  unfold Oper.wp
  rw [hrun]
  exact h

/-- Copies beside a Shelf. -/
theorem copies_sh (s n c : Int) : ∃ (k : Nat) (f : Nat → Int), k ≤ 9 ∧ ∀ {w W : World} {xb sz N : Nat} {kv ov : Value} {ks os : List Value}, Sh w W xb sz N N kv ov ks os →
    Calls Tryz.prog 4 #[.int .i64 s, .int .i64 n, .int .i64 c] W fun e w' => ∃ a cap err, e = .returned (.tuple #[.slice a k cap, .int .i64 err]) ∧ Sh w w' xb sz N N kv ov ks os ∧ w'.ownsRow w.heap.size 3 1 (.slice a k cap) k ((List.range k).map fun j => .int .i64 (f j)) ∧
      (∀ (j : Nat) (u : Value), ks[j]? = some u → ∀ b, u.ownBlock = some b → (Value.slice a k cap).ownBlock ≠ some b) ∧ (∀ b, (Value.slice a k cap).ownBlock = some b → W.heap.size ≤ b) ∧ RowKit.Below W.heap.size W w' := by
  obtain ⟨k, f, err, hk, h1, _⟩ := copies_both s n c
  refine ⟨k, f, hk, fun {w W xb sz N kv ov ks os} h => (h1 W).mono fun e w' ⟨a, cap, he, ho, hb⟩ => ⟨a, cap, err, he, h.on hb, own_mono ho h.k.below.size, fun j u hu b hbu e2 => ?_, fun b e2 => (ho.lt b e2).1, hb⟩⟩
  obtain ⟨m, xs, _, hu2⟩ := h.k.own j u hu
  have := (hu2.lt b hbu).2
  have := (ho.lt b e2).1
  omega

set_option maxHeartbeats 8000000 in
theorem exact_any (la : Option Addr) (lb lo L lc : Nat) (w : World) (hla : 0 < L → la = some ⟨lb, lo, none⟩) (hA : Asks w lb lo L) :
    Calls Tryz.prog 3 #[.slice la L lc] w fun e w' => e = .returned (.bool true) ∧ RowKit.Below w.heap.size w w' := by
  have mixed : Tryz.prog.follows .mixedOrders = true := by kernel_rfl
  have HA : Hid (∀ W, RowKit.Below w.heap.size w W → Asks W lb lo L) := fun W hb i hi => by
    obtain ⟨D, A, B, C, PX, PY, QX, QY, h0, h1, h2, h3, h4, h5, h6, h7⟩ := hA i hi
    have hbl := World.block_lt_of_cell? _ _ h0
    have cc : ∀ o, W.cell? ⟨lb, o, none⟩ = w.cell? ⟨lb, o, none⟩ := fun o => hb.cell (p := ⟨lb, o, none⟩) hbl
    exact ⟨D, A, B, C, PX, PY, QX, QY, (cc _).trans h0, (cc _).trans h1, (cc _).trans h2, (cc _).trans h3, (cc _).trans h4, (cc _).trans h5, (cc _).trans h6, (cc _).trans h7⟩
  have hsh := sh_new w
  have HW : Hid (∀ W, Calls Tryz.prog 9 #[] W fun e w' => e = .returned (.bool true) ∧ RowKit.Below W.heap.size W w') := wakes_any
  clear hA
  go_enter Tryz.func3, Tryz.ntmps3
  go_upto_region 2 with fail
  have hZ : w.alloc (.cells shelfZero 30) = w.alloc (.cells #[.int .i64 0, .slice none 0 0, .slice none 0 0, .slice none 0 0, .slice none 0 0, .slice none 0 0, .slice none 0 0, .slice none 0 0, .slice none 0 0, .slice none 0 0, .slice none 0 0] 30) := rfl
  rw [hZ] at hsh
  clear hZ
  generalize w.alloc (.cells #[.int .i64 0, .slice none 0 0, .slice none 0 0, .slice none 0 0, .slice none 0 0, .slice none 0 0, .slice none 0 0, .slice none 0 0, .slice none 0 0, .slice none 0 0, .slice none 0 0] 30) = W1 at *
  generalize hxb : w.heap.size = xb at hsh ⊢
  go_wp2_with fail
  go_loopg [4] 200 (fun q s4 wx => ∃ (i N sz : Nat) (kv ov : Value) (ks os : List Value), i ≤ 200 ∧ q = 200 - i ∧ s4 = .int .i64 i ∧ Sh w wx xb sz N N kv ov ks os ∧ N ≤ 4 * i ∧ sz ≤ 1000 * i)
  case atStart => exact ⟨0, 0, 0, _, _, [], [], by omega, rfl, rfl, hsh, by omega, by omega⟩
  case round =>
    obtain ⟨i, N, sz, kv, ov, ks, os, hi, rfl, rfl, hS, hN, hsz⟩ := hrel
    clear hsh
    by_cases hlt : i < L ∧ i < 200
    · obtain ⟨hiL, hi2⟩ := hlt
      have hz : (i : Int) < (L : Int) := by omega
      have hz2 : (i : Int) < 200 := by omega
      have ela := hla (by omega)
      subst ela
      go_wp2_with fail
      go_loopg [5] 2 (fun q s5 wx => ∃ (k N sz : Nat) (kv ov : Value) (ks os : List Value), k ≤ 2 ∧ q = 2 - k ∧ s5 = .int .i64 k ∧ Sh w wx xb sz N N kv ov ks os ∧ N ≤ 4 * i + 2 * k ∧ sz ≤ 1000 * i + 500 * k)
      case atStart => exact ⟨0, N, sz, kv, ov, ks, os, by omega, rfl, rfl, hS, by omega, by omega⟩
      case round =>
        clear hS hN hsz
        obtain ⟨k, N, sz, kv, ov, ks, os, hk, rfl, rfl, hS, hN, hsz⟩ := hrel
        by_cases hk2 : k < 2
        · have hkz : (k : Int) < 2 := by omega
          obtain ⟨D, A, B, C, PX, PY, QX, QY, h0, h1, h2, h3, h4, h5, h6, h7⟩ := HA.out wr hS.k.below i hiL
          obtain ⟨n1, f1, hn1, hc1⟩ := copies_sh A B C
          have HC1 : Hid (∀ W, Sh w W xb sz N N kv ov ks os → Calls Tryz.prog 4 #[.int .i64 A, .int .i64 B, .int .i64 C] W fun e w' => ∃ a cap err, e = .returned (.tuple #[.slice a n1 cap, .int .i64 err]) ∧ Sh w w' xb sz N N kv ov ks os ∧ w'.ownsRow w.heap.size 3 1 (.slice a n1 cap) n1 ((List.range n1).map fun j => .int .i64 (f1 j)) ∧
              (∀ (j : Nat) (u : Value), ks[j]? = some u → ∀ b, u.ownBlock = some b → (Value.slice a n1 cap).ownBlock ≠ some b) ∧ (∀ b, (Value.slice a n1 cap).ownBlock = some b → W.heap.size ≤ b) ∧ RowKit.Below W.heap.size W w') := fun W h => hc1 h
          clear hc1 h0 h4 h5 h6 h7
          go_upto_region 8 with fail
          go_region_held3 (fun W => Sh w W xb sz N N kv ov ks os ∧ W.cell? ⟨lb, lo + i * 8 + 1, none⟩ = some (.int .i64 A) ∧ W.cell? ⟨lb, lo + i * 8 + 2, none⟩ = some (.int .i64 B) ∧ W.cell? ⟨lb, lo + i * 8 + 3, none⟩ = some (.int .i64 C))
            (first | exact ⟨hS, h1, h2, h3⟩ | exact ⟨hS.on ((RowKit.Below.refl _ _).drew), h1, h2, h3⟩ | exact ⟨hS3, below_cell hb3 h1, below_cell hb3 h2, below_cell hb3 h3⟩)
            (first | (go_at_call 4; refine (HC1.out _ (by first | exact hS | exact hS.on ((RowKit.Below.refl _ _).drew))).mono ?_; rintro e w3 ⟨a, cap, err, rfl, hS3, ho, hfr, hge, hb3⟩))
          all_goals
            have hin := into_any A 8 (by decide) (by decide) w3
            have HFR : Hid _ := hfr
            clear hfr hge
            clear h1 h2 h3 HC1
            go_wp2_with fail
            refine hin.mono ?_
            rintro e w4 ⟨s, rfl, hs8, rfl⟩
            clear hin
            obtain ⟨n2, f2, hn2, hc2⟩ := copies_sh (s : Int) 7 5
            have hcc := hc2 hS3
            clear hc2
            go_wp2_with fail
            refine hcc.mono ?_
            rintro e w5 ⟨a2, cap2, err2, rfl, hS5, ho2, hfr2, hge2, hb5⟩
            clear hcc
            have hi5 := shelf_ints hS5 (below_own ho hb5) (by omega) (by omega) (by omega) HFR.out
            have HFR2 : Hid _ := hfr2
            have HO2 : Hid _ := ho2
            have HLT : Hid (∀ b, (Value.slice a n1 cap).ownBlock = some b → (Value.slice a2 n2 cap2).ownBlock ≠ some b) := fun b e1 e2 => by
              have q1 := (ho.lt b e1).2
              have q2 := hge2 b e2
              omega
            clear hge2 hb5 hb3 hS3 hS hfr2 ho2 HFR ho
            go_wp2_with fail
            refine hi5.mono ?_
            rintro e w6 ⟨rfl, hkp, N6, kv6, ov6, ks6, os6, hN6, hks6, hS6⟩
            clear hi5 hS5
            have hi6 := shelf_ints hS6 (hkp _ _ _ HO2.out) (by omega) (by omega) (by omega) (fun j u hu b hbu => by
              rcases hks6 with rfl | rfl
              · exact HFR2.out j u hu b hbu
              · by_cases hj : j < ks.length
                · rw [List.getElem?_append_left hj] at hu
                  exact HFR2.out j u hu b hbu
                · rw [List.getElem?_append_right (by omega)] at hu
                  have hu2 : u = Value.slice a n1 cap := by
                    have hj0 : j - ks.length = 0 := by
                      have := (List.getElem?_eq_some_iff.1 hu).1
                      simpa using this
                    rw [hj0] at hu
                    simpa using hu.symm
                  rw [hu2] at hbu
                  exact HLT.out b hbu)
            clear hkp hks6 HFR2 HO2 HLT
            go_wp2_with fail
            refine hi6.mono ?_
            rintro e w7 ⟨rfl, _, N7, kv7, ov7, ks7, os7, hN7, _, hS7⟩
            clear hi6 hS6
            go_wp2_with fail
            go_roundg (2 - (k + 1))
            case measure => go_light; omega
            case rel => go_light; exact ⟨k + 1, N7, _, kv7, ov7, ks7, os7, by omega, rfl, by simp, hS7, by omega, by omega⟩
        · obtain rfl : k = 2 := by omega
          go_wp2_with fail
          go_roundg (200 - (i + 1))
          case measure => go_light; omega
          case rel => go_light; exact ⟨i + 1, N, sz, kv, ov, ks, os, by omega, rfl, by simp, hS, by omega, by omega⟩
    · have hne : (¬ (i : Int) < (L : Int)) ∨ ((i : Int) < (L : Int) ∧ ¬ (i : Int) < 200) := by omega
      have hg := shelf_given hS (by omega)
      clear hS hlt
      rcases hne with hz | ⟨hz, hz2⟩
      all_goals
        go_wp2_with fail
        refine hg.mono ?_
        rintro e w2 ⟨rfl, hb2⟩
        have hbk := bk_new hb2
        clear hg
        go_upto_region 15 with fail
        refine oper_run (.agg #[.slice none 0 0, .slice none 0 0, .int .i64 0, .slice none 0 0, .slice none 0 0, .int .i64 0, .slice none 0 0, .slice none 0 0, .int .i64 0, .slice none 0 0, .slice none 0 0, .int .i64 0, .slice none 0 0, .slice none 0 0, .int .i64 0, .slice none 0 0, .slice none 0 0, .int .i64 0, .slice none 0 0, .slice none 0 0, .int .i64 0, .slice none 0 0, .slice none 0 0, .int .i64 0, .slice none 0 0, .slice none 0 0, .int .i64 0, .slice none 0 0, .slice none 0 0, .int .i64 0, .slice none 0 0, .slice none 0 0, .int .i64 0, .slice none 0 0, .slice none 0 0, .int .i64 0, .int .i64 0, .int .i64 0, .int .i64 0]) (by kernel_rfl) ?_
        go_upto_region 15 with fail
        have hZ : w2.alloc (.cells bookZero 52) = w2.alloc (.cells #[.slice none 0 0, .slice none 0 0, .int .i64 0, .slice none 0 0, .slice none 0 0, .int .i64 0, .slice none 0 0, .slice none 0 0, .int .i64 0, .slice none 0 0, .slice none 0 0, .int .i64 0, .slice none 0 0, .slice none 0 0, .int .i64 0, .slice none 0 0, .slice none 0 0, .int .i64 0, .slice none 0 0, .slice none 0 0, .int .i64 0, .slice none 0 0, .slice none 0 0, .int .i64 0, .slice none 0 0, .slice none 0 0, .int .i64 0, .slice none 0 0, .slice none 0 0, .int .i64 0, .slice none 0 0, .slice none 0 0, .int .i64 0, .slice none 0 0, .slice none 0 0, .int .i64 0, .int .i64 0, .int .i64 0, .int .i64 0] 52) := rfl
        rw [hZ] at hbk
        clear hZ
        generalize w2.alloc (.cells #[.slice none 0 0, .slice none 0 0, .int .i64 0, .slice none 0 0, .slice none 0 0, .int .i64 0, .slice none 0 0, .slice none 0 0, .int .i64 0, .slice none 0 0, .slice none 0 0, .int .i64 0, .slice none 0 0, .slice none 0 0, .int .i64 0, .slice none 0 0, .slice none 0 0, .int .i64 0, .slice none 0 0, .slice none 0 0, .int .i64 0, .slice none 0 0, .slice none 0 0, .int .i64 0, .slice none 0 0, .slice none 0 0, .int .i64 0, .slice none 0 0, .slice none 0 0, .int .i64 0, .slice none 0 0, .slice none 0 0, .int .i64 0, .slice none 0 0, .slice none 0 0, .int .i64 0, .int .i64 0, .int .i64 0, .int .i64 0] 52) = W3 at *
        generalize w2.heap.size = bk at hbk ⊢
        go_wp2_with fail
        go_loopg [11] 200 (fun q s11 wx => ∃ (i : Nat), i ≤ 200 ∧ q = 200 - i ∧ s11 = .int .i64 i ∧ Bk w bk i wx)
        case atStart => exact ⟨0, by omega, rfl, rfl, hbk⟩
        case round =>
          clear hbk
          obtain ⟨j, hj, rfl, rfl, hB⟩ := hrel
          have HBB : Hid (RowKit.Below w.heap.size w wr) := by
            obtain ⟨_, _, _, _, _, _, _, _, _, _, _, _, _, hx⟩ := hB
            exact hx
          by_cases hlt : j < L ∧ j < 200
          · obtain ⟨hjL, hj2⟩ := hlt
            have hy : (j : Int) < (L : Int) := by omega
            have hy2 : (j : Int) < 200 := by omega
            have ela := hla (by omega)
            subst ela
            obtain ⟨D, A, B, C, PX, PY, QX, QY, h0, h1, h2, h3, h4, h5, h6, h7⟩ := HA.out wr HBB.out j hjL
            have hh := holds_any D A B C PX PY QX QY hB (by omega)
            go_wp2_with fail
            refine hh.mono ?_
            rintro e w4 ⟨rfl, hB4⟩
            clear hh h0 h1 h2 h3 h4 h5 h6 h7 HBB hB
            go_wp2_with fail
            go_roundg (200 - (j + 1))
            case measure => go_light; omega
            case rel => go_light; exact ⟨j + 1, by omega, rfl, by simp, hB4⟩
          · have hny : (¬ (j : Int) < (L : Int)) ∨ ((j : Int) < (L : Int) ∧ ¬ (j : Int) < 200) := by omega
            clear hlt
            rcases hny with hy | ⟨hy, hy2⟩
            all_goals
              go_wp2_with fail
              refine (HW.out _).mono ?_
              rintro e w5 ⟨rfl, hb5⟩
              have hl := bk_look (hB.on hb5) (by omega)
              go_wp2_with fail
              refine hl.mono ?_
              rintro e w6 ⟨rfl, hB6⟩
              go_wp2_with fail
              go_ret
              obtain ⟨_, _, _, _, _, _, _, _, _, _, _, _, _, hx⟩ := hB6
              exact ⟨rfl, hx⟩
end Go.Proofs.YtbebnjeamlmclaaGreat
