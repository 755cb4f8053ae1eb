/- The reference's Point: the code point at a place. -/
import Derived.Test.YthoeehgnkolgpaaDoorFoldMath2
namespace Go.Proofs.YthoeehgnkolgpaaDoor
open Go.RowKit

/-- What Point answers, by the bytes. -/
def ptN (n b0 b1 b2 b3 : Nat) : Nat × Nat := if (Lib.decodeN n b0 b1 b2 b3).1 = 65533 ∧ (Lib.decodeN n b0 b1 b2 b3).2 = 1 then (0, 0) else Lib.decodeN n b0 b1 b2 b3
def ptM (l : List UInt8) : Nat × Nat := if (Lib.decodeL l).1 = 65533 ∧ (Lib.decodeL l).2 = 1 then (0, 0) else Lib.decodeL l
def ptV (x : Nat × Nat) : Value := .tuple #[.int .i64 (x.1 : Nat), .int .i64 (x.2 : Nat)]
theorem pt_at (s : ByteArray) (i : Nat) : ptM (s.data.toList.drop i) = ptN (s.size - i) (s.get! i).toNat (s.get! (i + 1)).toNat (s.get! (i + 2)).toNat (s.get! (i + 3)).toNat := by
  unfold ptM ptN
  rw [Lib.decodeL_drop, Lib.decode_at]
theorem pt_low {n b0 b1 b2 b3 : Nat} (h : b0 < 128) : ptN n b0 b1 b2 b3 = (b0, 1) := by
  have e : Lib.decodeN n b0 b1 b2 b3 = (b0, 1) := by unfold Lib.decodeN; rw [if_pos h]
  unfold ptN
  rw [e, if_neg (by simp only; omega)]
theorem pt_none {n b0 b1 b2 b3 : Nat} (h : (Lib.decodeN n b0 b1 b2 b3) = (65533, 1)) : ptN n b0 b1 b2 b3 = (0, 0) := by
  unfold ptN
  rw [h, if_pos ⟨rfl, rfl⟩]
theorem pt_some {n b0 b1 b2 b3 : Nat} {x : Nat × Nat} (h : (Lib.decodeN n b0 b1 b2 b3) = x) (hx : 2 ≤ x.2) : ptN n b0 b1 b2 b3 = x := by
  unfold ptN
  rw [h, if_neg (by omega)]
theorem pt_bad {n b0 b1 b2 b3 : Nat} (h : 128 ≤ b0) (h2 : b0 < 194 ∨ 244 < b0) (h3 : b0 < 256) : ptN n b0 b1 b2 b3 = (0, 0) := by
  refine pt_none ?_
  unfold Lib.decodeN
  rw [if_neg (by omega)]
  split
  · rw [if_neg (by omega)]
  · rw [if_neg (by omega)]
    split
    · rw [if_neg (by omega)]
    · rfl
theorem pt_two {n b0 b1 b2 b3 : Nat} (h : 194 ≤ b0) (h2 : b0 ≤ 223) : ptN n b0 b1 b2 b3 = if 1 < n ∧ contB b1 then (64 * (b0 - 192) + (b1 - 128), 2) else (0, 0) := by
  by_cases c : 1 < n ∧ contB b1
  · rw [if_pos c]
    have c2 := c.2
    unfold contB at c2
    refine pt_some (x := (64 * (b0 - 192) + (b1 - 128), 2)) ?_ (Nat.le_refl 2)
    unfold Lib.decodeN
    rw [if_neg (by omega), if_pos ⟨by omega, c.1, by omega⟩, if_pos (by omega)]
    exact congrArg (fun v => (v, 2)) (by omega)
  · rw [if_neg c]
    refine pt_none ?_
    unfold Lib.decodeN
    rw [if_neg (by omega), if_neg (fun k => c ⟨k.2.1, by unfold contB; omega⟩), if_neg (by omega), if_neg (by omega)]
theorem pt_three {n b0 b1 b2 b3 : Nat} (h : 224 ≤ b0) (h2 : b0 ≤ 239) : ptN n b0 b1 b2 b3 = if (1 < n ∧ contB b1) ∧ (2 < n ∧ contB b2) ∧ (2048 ≤ 64 * (64 * (b0 - 224) + (b1 - 128)) + (b2 - 128)) ∧ ¬ (55296 ≤ 64 * (64 * (b0 - 224) + (b1 - 128)) + (b2 - 128) ∧ 64 * (64 * (b0 - 224) + (b1 - 128)) + (b2 - 128) ≤ 57343) then (64 * (64 * (b0 - 224) + (b1 - 128)) + (b2 - 128), 3) else (0, 0) := by
  by_cases c1 : 1 < n ∧ contB b1
  · by_cases c2 : 2 < n ∧ contB b2
    · have d1 := c1.2
      have d2 := c2.2
      unfold contB at d1 d2
      have ev : b0 % 16 * 4096 + b1 % 64 * 64 + b2 % 64 = 64 * (64 * (b0 - 224) + (b1 - 128)) + (b2 - 128) := by omega
      have hbig : b0 % 16 * 4096 + b1 % 64 * 64 + b2 % 64 ≤ 65535 := by omega
      have go : Lib.decodeN n b0 b1 b2 b3 = if b0 % 16 * 4096 + b1 % 64 * 64 + b2 % 64 ≥ 2048 ∧ (b0 % 16 * 4096 + b1 % 64 * 64 + b2 % 64 < 55296 ∨ (57344 ≤ b0 % 16 * 4096 + b1 % 64 * 64 + b2 % 64 ∧ b0 % 16 * 4096 + b1 % 64 * 64 + b2 % 64 ≤ 1114111)) then (b0 % 16 * 4096 + b1 % 64 * 64 + b2 % 64, 3) else (65533, 1) := by
        unfold Lib.decodeN
        rw [if_neg (by omega), if_neg (by omega), if_pos ⟨by omega, ⟨c1.1, by omega⟩, c2.1, by omega⟩]
      rw [ev] at go hbig
      generalize 64 * (64 * (b0 - 224) + (b1 - 128)) + (b2 - 128) = V at *
      by_cases g : 2048 ≤ V ∧ ¬ (55296 ≤ V ∧ V ≤ 57343)
      · rw [if_pos ⟨c1, c2, g⟩]
        rw [if_pos (by omega)] at go
        exact pt_some go (by show 2 ≤ 3; omega)
      · rw [if_neg (fun k => g k.2.2)]
        rw [if_neg (by omega)] at go
        exact pt_none go
    · rw [if_neg (fun k => c2 k.2.1)]
      refine pt_none ?_
      unfold Lib.decodeN
      rw [if_neg (by omega), if_neg (by omega), if_neg (fun k => c2 ⟨k.2.2.1, by unfold contB; omega⟩), if_neg (by omega)]
  · rw [if_neg (fun k => c1 k.1)]
    refine pt_none ?_
    unfold Lib.decodeN
    rw [if_neg (by omega), if_neg (by omega), if_neg (fun k => c1 ⟨k.2.1.1, by unfold contB; omega⟩), if_neg (by omega)]
theorem pt_four {n b0 b1 b2 b3 : Nat} (h : 240 ≤ b0) (h2 : b0 ≤ 244) : ptN n b0 b1 b2 b3 = if (1 < n ∧ contB b1) ∧ (2 < n ∧ contB b2) ∧ (3 < n ∧ contB b3) ∧ (65536 ≤ 64 * (64 * (64 * (b0 - 240) + (b1 - 128)) + (b2 - 128)) + (b3 - 128)) ∧ (64 * (64 * (64 * (b0 - 240) + (b1 - 128)) + (b2 - 128)) + (b3 - 128) ≤ 1114111) then (64 * (64 * (64 * (b0 - 240) + (b1 - 128)) + (b2 - 128)) + (b3 - 128), 4) else (0, 0) := by
  by_cases c1 : 1 < n ∧ contB b1
  · by_cases c2 : 2 < n ∧ contB b2
    · by_cases c3 : 3 < n ∧ contB b3
      · have d1 := c1.2
        have d2 := c2.2
        have d3 := c3.2
        unfold contB at d1 d2 d3
        have ev : b0 % 8 * 262144 + b1 % 64 * 4096 + b2 % 64 * 64 + b3 % 64 = 64 * (64 * (64 * (b0 - 240) + (b1 - 128)) + (b2 - 128)) + (b3 - 128) := by omega
        have go : Lib.decodeN n b0 b1 b2 b3 = if b0 % 8 * 262144 + b1 % 64 * 4096 + b2 % 64 * 64 + b3 % 64 ≥ 65536 ∧ (b0 % 8 * 262144 + b1 % 64 * 4096 + b2 % 64 * 64 + b3 % 64 < 55296 ∨ (57344 ≤ b0 % 8 * 262144 + b1 % 64 * 4096 + b2 % 64 * 64 + b3 % 64 ∧ b0 % 8 * 262144 + b1 % 64 * 4096 + b2 % 64 * 64 + b3 % 64 ≤ 1114111)) then (b0 % 8 * 262144 + b1 % 64 * 4096 + b2 % 64 * 64 + b3 % 64, 4) else (65533, 1) := by
          unfold Lib.decodeN
          rw [if_neg (by omega), if_neg (by omega), if_neg (by omega), if_pos ⟨by omega, ⟨c1.1, by omega⟩, ⟨c2.1, by omega⟩, c3.1, by omega⟩]
        rw [ev] at go
        generalize 64 * (64 * (64 * (b0 - 240) + (b1 - 128)) + (b2 - 128)) + (b3 - 128) = V at *
        by_cases g : 65536 ≤ V ∧ V ≤ 1114111
        · rw [if_pos ⟨c1, c2, c3, g⟩]
          rw [if_pos (by omega)] at go
          exact pt_some go (by show 2 ≤ 4; omega)
        · rw [if_neg (fun k => g k.2.2.2)]
          rw [if_neg (by omega)] at go
          exact pt_none go
      · rw [if_neg (fun k => c3 k.2.2.1)]
        refine pt_none ?_
        unfold Lib.decodeN
        rw [if_neg (by omega), if_neg (by omega), if_neg (by omega), if_neg (fun k => c3 ⟨k.2.2.2.1, by unfold contB; omega⟩)]
    · rw [if_neg (fun k => c2 k.2.1)]
      refine pt_none ?_
      unfold Lib.decodeN
      rw [if_neg (by omega), if_neg (by omega), if_neg (by omega), if_neg (fun k => c2 ⟨k.2.2.1.1, by unfold contB; omega⟩)]
  · rw [if_neg (fun k => c1 k.1)]
    refine pt_none ?_
    unfold Lib.decodeN
    rw [if_neg (by omega), if_neg (by omega), if_neg (by omega), if_neg (fun k => c1 ⟨k.2.1.1, by unfold contB; omega⟩)]
theorem get_is (s : ByteArray) (i : Nat) (h : i < s.size) : s.get! i = s[i]'h := by simp [ByteArray.get!, getElem!_pos, h]; rfl

section
set_option maxHeartbeats 3200000
set_option maxRecDepth 100000

theorem point_low (s : ByteArray) (i : Nat) (w : World) (hi : i < s.size) (hb : (s[i]'hi).toNat < 128) : Calls Tryd.prog 46 #[.string s, .int .i64 i] w fun e w' => e = .returned (ptV (ptM (s.data.toList.drop i))) ∧ w' = w := by
  rw [pt_at]
  have hiz : (i : Int) < (s.size : Int) := by omega
  rw [get_is s i hi, pt_low hb]
  obtain ⟨b, hbb⟩ : ∃ b, s[i]'hi = b := ⟨_, rfl⟩
  rw [hbb] at hb ⊢
  have z1 : (b.toNat : Int) < 128 := by omega
  go_enter Tryd.func46, Tryd.ntmps46
  go_wp2_with fail
  go_ret2
  exact ⟨rfl, rfl⟩

theorem point_mid (s : ByteArray) (i : Nat) (w : World) (hi : i < s.size) (h1 : 128 ≤ (s[i]'hi).toNat) (h2 : (s[i]'hi).toNat < 194) : Calls Tryd.prog 46 #[.string s, .int .i64 i] w fun e w' => e = .returned (ptV (ptM (s.data.toList.drop i))) ∧ w' = w := by
  rw [pt_at]
  have hiz : (i : Int) < (s.size : Int) := by omega
  have h256 := (s[i]'hi).toNat_lt
  rw [get_is s i hi, pt_bad (by omega) (by omega) (by omega)]
  obtain ⟨b, hbb⟩ : ∃ b, s[i]'hi = b := ⟨_, rfl⟩
  rw [hbb] at h1 h2
  clear h256
  have z1 : ¬ (b.toNat : Int) < 128 := by omega
  have z2 : ¬ (194 : Int) ≤ (b.toNat : Int) := by omega
  have z3 : ¬ (224 : Int) ≤ (b.toNat : Int) := by omega
  have z4 : ¬ (240 : Int) ≤ (b.toNat : Int) := by omega
  go_enter Tryd.func46, Tryd.ntmps46
  go_wp2_with fail
  go_ret2
  exact ⟨rfl, rfl⟩

theorem point_top (s : ByteArray) (i : Nat) (w : World) (hi : i < s.size) (h1 : 244 < (s[i]'hi).toNat) (h2 : (s[i]'hi).toNat < 256) : Calls Tryd.prog 46 #[.string s, .int .i64 i] w fun e w' => e = .returned (ptV (ptM (s.data.toList.drop i))) ∧ w' = w := by
  rw [pt_at]
  have hiz : (i : Int) < (s.size : Int) := by omega
  have h256 := (s[i]'hi).toNat_lt
  rw [get_is s i hi, pt_bad (by omega) (by omega) (by omega)]
  obtain ⟨b, hbb⟩ : ∃ b, s[i]'hi = b := ⟨_, rfl⟩
  rw [hbb] at h1 h2
  clear h256
  have z1 : ¬ (b.toNat : Int) < 128 := by omega
  have z2 : (194 : Int) ≤ (b.toNat : Int) := by omega
  have z3 : (224 : Int) ≤ (b.toNat : Int) := by omega
  have z4 : (240 : Int) ≤ (b.toNat : Int) := by omega
  have z5 : ¬ (b.toNat : Int) ≤ 223 := by omega
  have z6 : ¬ (b.toNat : Int) ≤ 239 := by omega
  have z7 : ¬ (b.toNat : Int) ≤ 244 := by omega
  go_enter Tryd.func46, Tryd.ntmps46
  go_wp2_with fail
  go_ret2
  exact ⟨rfl, rfl⟩

theorem point_2 (s : ByteArray) (i : Nat) (w : World) (hi : i < s.size) (hmax : s.size ≤ 140737488355328) (h1 : 194 ≤ (s[i]'hi).toNat) (h2 : (s[i]'hi).toNat ≤ 223) : Calls Tryd.prog 46 #[.string s, .int .i64 i] w fun e w' => e = .returned (ptV (ptM (s.data.toList.drop i))) ∧ w' = w := by
  rw [pt_at]
  have hiz : (i : Int) < (s.size : Int) := by omega
  rw [get_is s i hi, pt_two h1 h2]
  obtain ⟨b, hbb⟩ : ∃ b, s[i]'hi = b := ⟨_, rfl⟩
  rw [hbb] at h1 h2 ⊢
  obtain ⟨x, hx⟩ : ∃ x, b.toNat = 192 + x := ⟨b.toNat - 192, by omega⟩
  have hxz : (b.toNat : Int) = 192 + (x : Int) := by omega
  have hx9 : x ≤ 31 := by omega
  have sx : (192 : Int) + (x : Int) - 192 = (x : Int) := by omega
  have z0 : ¬ (192 : Int) + (x : Int) < 128 := by omega
  have z1 : (194 : Int) ≤ 192 + (x : Int) := by omega
  have z2 : (192 : Int) + (x : Int) ≤ 223 := by omega
  obtain ⟨ANS, hA⟩ : ∃ A, A = if 1 < s.size - i ∧ contB (s.get! (i + 1)).toNat then (64 * (b.toNat - 192) + ((s.get! (i + 1)).toNat - 128), 2) else (0, 0) := ⟨_, rfl⟩
  rw [← hA]
  have HA := hide hA
  clear hA h1 h2
  have HX := hide hx
  clear hx
  go_enter Tryd.func46, Tryd.ntmps46
  go_wp2_with fail
  refine wp_loop_rounds 2 ?_
  rw [rounds_succ]
  by_cases l1 : 1 < s.size - i
  · have j1 : i + 1 < s.size := by omega
    have jz1 : (i : Int) + 1 < (s.size : Int) := by omega
    have jn1 : ¬ (s.size : Int) ≤ (i : Int) + 1 := by omega
    obtain ⟨c1, hc1⟩ : ∃ c, s[i + 1]'j1 = c := ⟨_, rfl⟩
    have HC1 : Hid ((s.get! (i + 1)) = c1) := hide (by rw [get_is s _ j1, hc1])
    have h256_1 := c1.toNat_lt
    by_cases m1 : 128 ≤ c1.toNat
    · by_cases o1 : c1.toNat ≤ 191
      · obtain ⟨y1, hy1⟩ : ∃ y, c1.toNat = 128 + y := ⟨c1.toNat - 128, by omega⟩
        have hyz1 : (c1.toNat : Int) = 128 + (y1 : Int) := by omega
        have y91 : y1 ≤ 63 := by omega
        have HY1 : Hid ((s.get! (i + 1)).toNat = 128 + y1) := hide (by rw [HC1.out]; exact hy1)
        have n1 : contB (s.get! (i + 1)).toNat := by rw [HY1.out]; unfold contB; omega
        have a1 : ¬ (128 : Int) + (y1 : Int) < 128 := by omega
        have b1 : ¬ (191 : Int) < 128 + (y1 : Int) := by omega
        have s1 : 64 * (x : Int) + (128 + (y1 : Int)) - 128 = (64 * (x : Int) + (y1 : Int)) := by omega
        clear m1 o1 hy1 h256_1 HC1
        go_wp2_with fail
        rw [rounds_succ]
        obtain ⟨V, hV⟩ : ∃ V, V = (64 * x + y1) := ⟨_, rfl⟩
        have hVz : (64 * (x : Int) + (y1 : Int)) = (V : Int) := by omega
        have hA2 := HA.out
        rw [show b.toNat - 192 = x by have := HX.out; omega, show (s.get! (i + 1)).toNat - 128 = y1 by have := (HY1).out; omega, ← hV] at hA2
        have HV := hide hV
        clear hV HA
        rw [if_pos ⟨l1, n1⟩] at hA2
        have h0 : ¬ (V : Int) < 128 := by omega
        have h1 : ¬ (1114111 : Int) < (V : Int) := by omega
        have h3 : ¬ (55296 : Int) ≤ (V : Int) := by omega
        have hno := hide hA2
        clear hA2
        go_wp2_with fail
        go_ret2
        exact ⟨by rw [hno.out]; rfl, rfl⟩
      · have a1 : ¬ (c1.toNat : Int) < 128 := by omega
        have b1 : (191 : Int) < (c1.toNat : Int) := by omega
        have hno : Hid (ANS = (0, 0)) := hide (by rw [HA.out, if_neg (fun q => o1 (by have h := (q).2; rw [HC1.out] at h; exact h.2))])
        clear HA
        go_wp2_with fail
        go_ret2
        exact ⟨by rw [hno.out]; rfl, rfl⟩
    · have a1 : (c1.toNat : Int) < 128 := by omega
      have hno : Hid (ANS = (0, 0)) := hide (by rw [HA.out, if_neg (fun q => m1 (by have h := (q).2; rw [HC1.out] at h; exact h.1))])
      clear HA
      go_wp2_with fail
      go_ret2
      exact ⟨by rw [hno.out]; rfl, rfl⟩
  · have jn1 : (s.size : Int) ≤ (i : Int) + 1 := by omega
    have hno : Hid (ANS = (0, 0)) := hide (by rw [HA.out, if_neg (fun q => l1 (q).1)])
    clear HA
    go_wp2_with fail
    go_ret2
    exact ⟨by rw [hno.out]; rfl, rfl⟩

theorem point_3 (s : ByteArray) (i : Nat) (w : World) (hi : i < s.size) (hmax : s.size ≤ 140737488355328) (h1 : 224 ≤ (s[i]'hi).toNat) (h2 : (s[i]'hi).toNat ≤ 239) : Calls Tryd.prog 46 #[.string s, .int .i64 i] w fun e w' => e = .returned (ptV (ptM (s.data.toList.drop i))) ∧ w' = w := by
  rw [pt_at]
  have hiz : (i : Int) < (s.size : Int) := by omega
  rw [get_is s i hi, pt_three h1 h2]
  obtain ⟨b, hbb⟩ : ∃ b, s[i]'hi = b := ⟨_, rfl⟩
  rw [hbb] at h1 h2 ⊢
  obtain ⟨x, hx⟩ : ∃ x, b.toNat = 224 + x := ⟨b.toNat - 224, by omega⟩
  have hxz : (b.toNat : Int) = 224 + (x : Int) := by omega
  have hx9 : x ≤ 31 := by omega
  have sx : (224 : Int) + (x : Int) - 224 = (x : Int) := by omega
  have z0 : ¬ (224 : Int) + (x : Int) < 128 := by omega
  have z1 : (194 : Int) ≤ 224 + (x : Int) := by omega
  have z2 : ¬ (224 : Int) + (x : Int) ≤ 223 := by omega
  have z3 : (224 : Int) ≤ 224 + (x : Int) := by omega
  have z4 : (224 : Int) + (x : Int) ≤ 239 := by omega
  obtain ⟨ANS, hA⟩ : ∃ A, A = if (1 < s.size - i ∧ contB (s.get! (i + 1)).toNat) ∧ (2 < s.size - i ∧ contB (s.get! (i + 2)).toNat) ∧ (2048 ≤ 64 * (64 * (b.toNat - 224) + ((s.get! (i + 1)).toNat - 128)) + ((s.get! (i + 2)).toNat - 128)) ∧ ¬ (55296 ≤ 64 * (64 * (b.toNat - 224) + ((s.get! (i + 1)).toNat - 128)) + ((s.get! (i + 2)).toNat - 128) ∧ 64 * (64 * (b.toNat - 224) + ((s.get! (i + 1)).toNat - 128)) + ((s.get! (i + 2)).toNat - 128) ≤ 57343) then (64 * (64 * (b.toNat - 224) + ((s.get! (i + 1)).toNat - 128)) + ((s.get! (i + 2)).toNat - 128), 3) else (0, 0) := ⟨_, rfl⟩
  rw [← hA]
  have HA := hide hA
  clear hA h1 h2
  have HX := hide hx
  clear hx
  go_enter Tryd.func46, Tryd.ntmps46
  go_wp2_with fail
  refine wp_loop_rounds 3 ?_
  rw [rounds_succ]
  by_cases l1 : 1 < s.size - i
  · have j1 : i + 1 < s.size := by omega
    have jz1 : (i : Int) + 1 < (s.size : Int) := by omega
    have jn1 : ¬ (s.size : Int) ≤ (i : Int) + 1 := by omega
    obtain ⟨c1, hc1⟩ : ∃ c, s[i + 1]'j1 = c := ⟨_, rfl⟩
    have HC1 : Hid ((s.get! (i + 1)) = c1) := hide (by rw [get_is s _ j1, hc1])
    have h256_1 := c1.toNat_lt
    by_cases m1 : 128 ≤ c1.toNat
    · by_cases o1 : c1.toNat ≤ 191
      · obtain ⟨y1, hy1⟩ : ∃ y, c1.toNat = 128 + y := ⟨c1.toNat - 128, by omega⟩
        have hyz1 : (c1.toNat : Int) = 128 + (y1 : Int) := by omega
        have y91 : y1 ≤ 63 := by omega
        have HY1 : Hid ((s.get! (i + 1)).toNat = 128 + y1) := hide (by rw [HC1.out]; exact hy1)
        have n1 : contB (s.get! (i + 1)).toNat := by rw [HY1.out]; unfold contB; omega
        have a1 : ¬ (128 : Int) + (y1 : Int) < 128 := by omega
        have b1 : ¬ (191 : Int) < 128 + (y1 : Int) := by omega
        have s1 : 64 * (x : Int) + (128 + (y1 : Int)) - 128 = (64 * (x : Int) + (y1 : Int)) := by omega
        clear m1 o1 hy1 h256_1 HC1
        go_wp2_with fail
        rw [rounds_succ]
        by_cases l2 : 2 < s.size - i
        · have j2 : i + 2 < s.size := by omega
          have jz2 : (i : Int) + 2 < (s.size : Int) := by omega
          have jn2 : ¬ (s.size : Int) ≤ (i : Int) + 2 := by omega
          obtain ⟨c2, hc2⟩ : ∃ c, s[i + 2]'j2 = c := ⟨_, rfl⟩
          have HC2 : Hid ((s.get! (i + 2)) = c2) := hide (by rw [get_is s _ j2, hc2])
          have h256_2 := c2.toNat_lt
          by_cases m2 : 128 ≤ c2.toNat
          · by_cases o2 : c2.toNat ≤ 191
            · obtain ⟨y2, hy2⟩ : ∃ y, c2.toNat = 128 + y := ⟨c2.toNat - 128, by omega⟩
              have hyz2 : (c2.toNat : Int) = 128 + (y2 : Int) := by omega
              have y92 : y2 ≤ 63 := by omega
              have HY2 : Hid ((s.get! (i + 2)).toNat = 128 + y2) := hide (by rw [HC2.out]; exact hy2)
              have n2 : contB (s.get! (i + 2)).toNat := by rw [HY2.out]; unfold contB; omega
              have a2 : ¬ (128 : Int) + (y2 : Int) < 128 := by omega
              have b2 : ¬ (191 : Int) < 128 + (y2 : Int) := by omega
              have s2 : 64 * (64 * (x : Int) + (y1 : Int)) + (128 + (y2 : Int)) - 128 = (64 * (64 * (x : Int) + (y1 : Int)) + (y2 : Int)) := by omega
              clear m2 o2 hy2 h256_2 HC2
              go_wp2_with fail
              rw [rounds_succ]
              obtain ⟨V, hV⟩ : ∃ V, V = (64 * (64 * x + y1) + y2) := ⟨_, rfl⟩
              have hVz : (64 * (64 * (x : Int) + (y1 : Int)) + (y2 : Int)) = (V : Int) := by omega
              have hA2 := HA.out
              rw [show b.toNat - 224 = x by have := HX.out; omega, show (s.get! (i + 1)).toNat - 128 = y1 by have := (HY1).out; omega, show (s.get! (i + 2)).toNat - 128 = y2 by have := (HY2).out; omega, ← hV] at hA2
              have HV := hide hV
              clear hV HA
              have h1 : ¬ (1114111 : Int) < (V : Int) := by omega
              by_cases g1 : 2048 ≤ V
              · have h0 : ¬ (V : Int) < 2048 := by omega
                by_cases g2 : 55296 ≤ V
                · have h3 : (55296 : Int) ≤ (V : Int) := by omega
                  by_cases g3 : V ≤ 57343
                  · have h4 : (V : Int) ≤ 57343 := by omega
                    rw [if_neg (fun k => k.2.2.2 ⟨g2, g3⟩)] at hA2
                    have hno := hide hA2
                    clear hA2 g1 g2 g3
                    go_wp2_with fail
                    go_ret2
                    exact ⟨by rw [hno.out]; rfl, rfl⟩
                  · have h4 : ¬ (V : Int) ≤ 57343 := by omega
                    rw [if_pos ⟨⟨l1, n1⟩, ⟨l2, n2⟩, g1, fun k => g3 k.2⟩] at hA2
                    have hno := hide hA2
                    clear hA2 g1 g2 g3
                    go_wp2_with fail
                    go_ret2
                    exact ⟨by rw [hno.out]; rfl, rfl⟩
                · have h3 : ¬ (55296 : Int) ≤ (V : Int) := by omega
                  rw [if_pos ⟨⟨l1, n1⟩, ⟨l2, n2⟩, g1, fun k => g2 k.1⟩] at hA2
                  have hno := hide hA2
                  clear hA2 g1 g2
                  go_wp2_with fail
                  go_ret2
                  exact ⟨by rw [hno.out]; rfl, rfl⟩
              · have h0 : (V : Int) < 2048 := by omega
                rw [if_neg (fun k => g1 k.2.2.1)] at hA2
                have hno := hide hA2
                clear hA2 g1
                go_wp2_with fail
                go_ret2
                exact ⟨by rw [hno.out]; rfl, rfl⟩
            · have a2 : ¬ (c2.toNat : Int) < 128 := by omega
              have b2 : (191 : Int) < (c2.toNat : Int) := by omega
              have hno : Hid (ANS = (0, 0)) := hide (by rw [HA.out, if_neg (fun q => o2 (by have h := (q.2.1).2; rw [HC2.out] at h; exact h.2))])
              clear HA
              go_wp2_with fail
              go_ret2
              exact ⟨by rw [hno.out]; rfl, rfl⟩
          · have a2 : (c2.toNat : Int) < 128 := by omega
            have hno : Hid (ANS = (0, 0)) := hide (by rw [HA.out, if_neg (fun q => m2 (by have h := (q.2.1).2; rw [HC2.out] at h; exact h.1))])
            clear HA
            go_wp2_with fail
            go_ret2
            exact ⟨by rw [hno.out]; rfl, rfl⟩
        · have jn2 : (s.size : Int) ≤ (i : Int) + 2 := by omega
          have hno : Hid (ANS = (0, 0)) := hide (by rw [HA.out, if_neg (fun q => l2 (q.2.1).1)])
          clear HA
          go_wp2_with fail
          go_ret2
          exact ⟨by rw [hno.out]; rfl, rfl⟩
      · have a1 : ¬ (c1.toNat : Int) < 128 := by omega
        have b1 : (191 : Int) < (c1.toNat : Int) := by omega
        have hno : Hid (ANS = (0, 0)) := hide (by rw [HA.out, if_neg (fun q => o1 (by have h := (q.1).2; rw [HC1.out] at h; exact h.2))])
        clear HA
        go_wp2_with fail
        go_ret2
        exact ⟨by rw [hno.out]; rfl, rfl⟩
    · have a1 : (c1.toNat : Int) < 128 := by omega
      have hno : Hid (ANS = (0, 0)) := hide (by rw [HA.out, if_neg (fun q => m1 (by have h := (q.1).2; rw [HC1.out] at h; exact h.1))])
      clear HA
      go_wp2_with fail
      go_ret2
      exact ⟨by rw [hno.out]; rfl, rfl⟩
  · have jn1 : (s.size : Int) ≤ (i : Int) + 1 := by omega
    have hno : Hid (ANS = (0, 0)) := hide (by rw [HA.out, if_neg (fun q => l1 (q.1).1)])
    clear HA
    go_wp2_with fail
    go_ret2
    exact ⟨by rw [hno.out]; rfl, rfl⟩

theorem point_4 (s : ByteArray) (i : Nat) (w : World) (hi : i < s.size) (hmax : s.size ≤ 140737488355328) (h1 : 240 ≤ (s[i]'hi).toNat) (h2 : (s[i]'hi).toNat ≤ 244) : Calls Tryd.prog 46 #[.string s, .int .i64 i] w fun e w' => e = .returned (ptV (ptM (s.data.toList.drop i))) ∧ w' = w := by
  rw [pt_at]
  have hiz : (i : Int) < (s.size : Int) := by omega
  rw [get_is s i hi, pt_four h1 h2]
  obtain ⟨b, hbb⟩ : ∃ b, s[i]'hi = b := ⟨_, rfl⟩
  rw [hbb] at h1 h2 ⊢
  obtain ⟨x, hx⟩ : ∃ x, b.toNat = 240 + x := ⟨b.toNat - 240, by omega⟩
  have hxz : (b.toNat : Int) = 240 + (x : Int) := by omega
  have hx9 : x ≤ 31 := by omega
  have sx : (240 : Int) + (x : Int) - 240 = (x : Int) := by omega
  have z0 : ¬ (240 : Int) + (x : Int) < 128 := by omega
  have z1 : (194 : Int) ≤ 240 + (x : Int) := by omega
  have z2 : ¬ (240 : Int) + (x : Int) ≤ 223 := by omega
  have z3 : (224 : Int) ≤ 240 + (x : Int) := by omega
  have z4 : ¬ (240 : Int) + (x : Int) ≤ 239 := by omega
  have z5 : (240 : Int) ≤ 240 + (x : Int) := by omega
  have z6 : (240 : Int) + (x : Int) ≤ 244 := by omega
  obtain ⟨ANS, hA⟩ : ∃ A, A = if (1 < s.size - i ∧ contB (s.get! (i + 1)).toNat) ∧ (2 < s.size - i ∧ contB (s.get! (i + 2)).toNat) ∧ (3 < s.size - i ∧ contB (s.get! (i + 3)).toNat) ∧ (65536 ≤ 64 * (64 * (64 * (b.toNat - 240) + ((s.get! (i + 1)).toNat - 128)) + ((s.get! (i + 2)).toNat - 128)) + ((s.get! (i + 3)).toNat - 128)) ∧ (64 * (64 * (64 * (b.toNat - 240) + ((s.get! (i + 1)).toNat - 128)) + ((s.get! (i + 2)).toNat - 128)) + ((s.get! (i + 3)).toNat - 128) ≤ 1114111) then (64 * (64 * (64 * (b.toNat - 240) + ((s.get! (i + 1)).toNat - 128)) + ((s.get! (i + 2)).toNat - 128)) + ((s.get! (i + 3)).toNat - 128), 4) else (0, 0) := ⟨_, rfl⟩
  rw [← hA]
  have HA := hide hA
  clear hA h1 h2
  have HX := hide hx
  clear hx
  go_enter Tryd.func46, Tryd.ntmps46
  go_wp2_with fail
  refine wp_loop_rounds 4 ?_
  rw [rounds_succ]
  by_cases l1 : 1 < s.size - i
  · have j1 : i + 1 < s.size := by omega
    have jz1 : (i : Int) + 1 < (s.size : Int) := by omega
    have jn1 : ¬ (s.size : Int) ≤ (i : Int) + 1 := by omega
    obtain ⟨c1, hc1⟩ : ∃ c, s[i + 1]'j1 = c := ⟨_, rfl⟩
    have HC1 : Hid ((s.get! (i + 1)) = c1) := hide (by rw [get_is s _ j1, hc1])
    have h256_1 := c1.toNat_lt
    by_cases m1 : 128 ≤ c1.toNat
    · by_cases o1 : c1.toNat ≤ 191
      · obtain ⟨y1, hy1⟩ : ∃ y, c1.toNat = 128 + y := ⟨c1.toNat - 128, by omega⟩
        have hyz1 : (c1.toNat : Int) = 128 + (y1 : Int) := by omega
        have y91 : y1 ≤ 63 := by omega
        have HY1 : Hid ((s.get! (i + 1)).toNat = 128 + y1) := hide (by rw [HC1.out]; exact hy1)
        have n1 : contB (s.get! (i + 1)).toNat := by rw [HY1.out]; unfold contB; omega
        have a1 : ¬ (128 : Int) + (y1 : Int) < 128 := by omega
        have b1 : ¬ (191 : Int) < 128 + (y1 : Int) := by omega
        have s1 : 64 * (x : Int) + (128 + (y1 : Int)) - 128 = (64 * (x : Int) + (y1 : Int)) := by omega
        clear m1 o1 hy1 h256_1 HC1
        go_wp2_with fail
        rw [rounds_succ]
        by_cases l2 : 2 < s.size - i
        · have j2 : i + 2 < s.size := by omega
          have jz2 : (i : Int) + 2 < (s.size : Int) := by omega
          have jn2 : ¬ (s.size : Int) ≤ (i : Int) + 2 := by omega
          obtain ⟨c2, hc2⟩ : ∃ c, s[i + 2]'j2 = c := ⟨_, rfl⟩
          have HC2 : Hid ((s.get! (i + 2)) = c2) := hide (by rw [get_is s _ j2, hc2])
          have h256_2 := c2.toNat_lt
          by_cases m2 : 128 ≤ c2.toNat
          · by_cases o2 : c2.toNat ≤ 191
            · obtain ⟨y2, hy2⟩ : ∃ y, c2.toNat = 128 + y := ⟨c2.toNat - 128, by omega⟩
              have hyz2 : (c2.toNat : Int) = 128 + (y2 : Int) := by omega
              have y92 : y2 ≤ 63 := by omega
              have HY2 : Hid ((s.get! (i + 2)).toNat = 128 + y2) := hide (by rw [HC2.out]; exact hy2)
              have n2 : contB (s.get! (i + 2)).toNat := by rw [HY2.out]; unfold contB; omega
              have a2 : ¬ (128 : Int) + (y2 : Int) < 128 := by omega
              have b2 : ¬ (191 : Int) < 128 + (y2 : Int) := by omega
              have s2 : 64 * (64 * (x : Int) + (y1 : Int)) + (128 + (y2 : Int)) - 128 = (64 * (64 * (x : Int) + (y1 : Int)) + (y2 : Int)) := by omega
              clear m2 o2 hy2 h256_2 HC2
              go_wp2_with fail
              rw [rounds_succ]
              by_cases l3 : 3 < s.size - i
              · have j3 : i + 3 < s.size := by omega
                have jz3 : (i : Int) + 3 < (s.size : Int) := by omega
                have jn3 : ¬ (s.size : Int) ≤ (i : Int) + 3 := by omega
                obtain ⟨c3, hc3⟩ : ∃ c, s[i + 3]'j3 = c := ⟨_, rfl⟩
                have HC3 : Hid ((s.get! (i + 3)) = c3) := hide (by rw [get_is s _ j3, hc3])
                have h256_3 := c3.toNat_lt
                by_cases m3 : 128 ≤ c3.toNat
                · by_cases o3 : c3.toNat ≤ 191
                  · obtain ⟨y3, hy3⟩ : ∃ y, c3.toNat = 128 + y := ⟨c3.toNat - 128, by omega⟩
                    have hyz3 : (c3.toNat : Int) = 128 + (y3 : Int) := by omega
                    have y93 : y3 ≤ 63 := by omega
                    have HY3 : Hid ((s.get! (i + 3)).toNat = 128 + y3) := hide (by rw [HC3.out]; exact hy3)
                    have n3 : contB (s.get! (i + 3)).toNat := by rw [HY3.out]; unfold contB; omega
                    have a3 : ¬ (128 : Int) + (y3 : Int) < 128 := by omega
                    have b3 : ¬ (191 : Int) < 128 + (y3 : Int) := by omega
                    have s3 : 64 * (64 * (64 * (x : Int) + (y1 : Int)) + (y2 : Int)) + (128 + (y3 : Int)) - 128 = (64 * (64 * (64 * (x : Int) + (y1 : Int)) + (y2 : Int)) + (y3 : Int)) := by omega
                    clear m3 o3 hy3 h256_3 HC3
                    go_wp2_with fail
                    rw [rounds_succ]
                    obtain ⟨V, hV⟩ : ∃ V, V = (64 * (64 * (64 * x + y1) + y2) + y3) := ⟨_, rfl⟩
                    have hVz : (64 * (64 * (64 * (x : Int) + (y1 : Int)) + (y2 : Int)) + (y3 : Int)) = (V : Int) := by omega
                    have hA2 := HA.out
                    rw [show b.toNat - 240 = x by have := HX.out; omega, show (s.get! (i + 1)).toNat - 128 = y1 by have := (HY1).out; omega, show (s.get! (i + 2)).toNat - 128 = y2 by have := (HY2).out; omega, show (s.get! (i + 3)).toNat - 128 = y3 by have := (HY3).out; omega, ← hV] at hA2
                    have HV := hide hV
                    clear hV HA
                    by_cases g1 : 65536 ≤ V
                    · have h0 : ¬ (V : Int) < 65536 := by omega
                      by_cases g2 : V ≤ 1114111
                      · have h1 : ¬ (1114111 : Int) < (V : Int) := by omega
                        have h3 : (55296 : Int) ≤ (V : Int) := by omega
                        have h4 : ¬ (V : Int) ≤ 57343 := by omega
                        rw [if_pos ⟨⟨l1, n1⟩, ⟨l2, n2⟩, ⟨l3, n3⟩, g1, g2⟩] at hA2
                        have hno := hide hA2
                        clear hA2 g1 g2
                        go_wp2_with fail
                        go_ret2
                        exact ⟨by rw [hno.out]; rfl, rfl⟩
                      · have h1 : (1114111 : Int) < (V : Int) := by omega
                        rw [if_neg (fun k => g2 k.2.2.2.2)] at hA2
                        have hno := hide hA2
                        clear hA2 g1 g2
                        go_wp2_with fail
                        go_ret2
                        exact ⟨by rw [hno.out]; rfl, rfl⟩
                    · have h0 : (V : Int) < 65536 := by omega
                      rw [if_neg (fun k => g1 k.2.2.2.1)] at hA2
                      have hno := hide hA2
                      clear hA2 g1
                      go_wp2_with fail
                      go_ret2
                      exact ⟨by rw [hno.out]; rfl, rfl⟩
                  · have a3 : ¬ (c3.toNat : Int) < 128 := by omega
                    have b3 : (191 : Int) < (c3.toNat : Int) := by omega
                    have hno : Hid (ANS = (0, 0)) := hide (by rw [HA.out, if_neg (fun q => o3 (by have h := (q.2.2.1).2; rw [HC3.out] at h; exact h.2))])
                    clear HA
                    go_wp2_with fail
                    go_ret2
                    exact ⟨by rw [hno.out]; rfl, rfl⟩
                · have a3 : (c3.toNat : Int) < 128 := by omega
                  have hno : Hid (ANS = (0, 0)) := hide (by rw [HA.out, if_neg (fun q => m3 (by have h := (q.2.2.1).2; rw [HC3.out] at h; exact h.1))])
                  clear HA
                  go_wp2_with fail
                  go_ret2
                  exact ⟨by rw [hno.out]; rfl, rfl⟩
              · have jn3 : (s.size : Int) ≤ (i : Int) + 3 := by omega
                have hno : Hid (ANS = (0, 0)) := hide (by rw [HA.out, if_neg (fun q => l3 (q.2.2.1).1)])
                clear HA
                go_wp2_with fail
                go_ret2
                exact ⟨by rw [hno.out]; rfl, rfl⟩
            · have a2 : ¬ (c2.toNat : Int) < 128 := by omega
              have b2 : (191 : Int) < (c2.toNat : Int) := by omega
              have hno : Hid (ANS = (0, 0)) := hide (by rw [HA.out, if_neg (fun q => o2 (by have h := (q.2.1).2; rw [HC2.out] at h; exact h.2))])
              clear HA
              go_wp2_with fail
              go_ret2
              exact ⟨by rw [hno.out]; rfl, rfl⟩
          · have a2 : (c2.toNat : Int) < 128 := by omega
            have hno : Hid (ANS = (0, 0)) := hide (by rw [HA.out, if_neg (fun q => m2 (by have h := (q.2.1).2; rw [HC2.out] at h; exact h.1))])
            clear HA
            go_wp2_with fail
            go_ret2
            exact ⟨by rw [hno.out]; rfl, rfl⟩
        · have jn2 : (s.size : Int) ≤ (i : Int) + 2 := by omega
          have hno : Hid (ANS = (0, 0)) := hide (by rw [HA.out, if_neg (fun q => l2 (q.2.1).1)])
          clear HA
          go_wp2_with fail
          go_ret2
          exact ⟨by rw [hno.out]; rfl, rfl⟩
      · have a1 : ¬ (c1.toNat : Int) < 128 := by omega
        have b1 : (191 : Int) < (c1.toNat : Int) := by omega
        have hno : Hid (ANS = (0, 0)) := hide (by rw [HA.out, if_neg (fun q => o1 (by have h := (q.1).2; rw [HC1.out] at h; exact h.2))])
        clear HA
        go_wp2_with fail
        go_ret2
        exact ⟨by rw [hno.out]; rfl, rfl⟩
    · have a1 : (c1.toNat : Int) < 128 := by omega
      have hno : Hid (ANS = (0, 0)) := hide (by rw [HA.out, if_neg (fun q => m1 (by have h := (q.1).2; rw [HC1.out] at h; exact h.1))])
      clear HA
      go_wp2_with fail
      go_ret2
      exact ⟨by rw [hno.out]; rfl, rfl⟩
  · have jn1 : (s.size : Int) ≤ (i : Int) + 1 := by omega
    have hno : Hid (ANS = (0, 0)) := hide (by rw [HA.out, if_neg (fun q => l1 (q.1).1)])
    clear HA
    go_wp2_with fail
    go_ret2
    exact ⟨by rw [hno.out]; rfl, rfl⟩

theorem point_any (s : ByteArray) (i : Nat) (w : World) (hi : i < s.size) (hmax : s.size ≤ 140737488355328) : Calls Tryd.prog 46 #[.string s, .int .i64 i] w fun e w' => e = .returned (ptV (ptM (s.data.toList.drop i))) ∧ w' = w := by
  have h256 := (s[i]'hi).toNat_lt
  by_cases a : (s[i]'hi).toNat < 128
  · exact point_low s i w hi a
  by_cases b : (s[i]'hi).toNat < 194
  · exact point_mid s i w hi (by omega) (by omega)
  by_cases c : (s[i]'hi).toNat ≤ 223
  · exact point_2 s i w hi hmax (by omega) c
  by_cases d : (s[i]'hi).toNat ≤ 239
  · exact point_3 s i w hi hmax (by omega) d
  by_cases e : (s[i]'hi).toNat ≤ 244
  · exact point_4 s i w hi hmax (by omega) e
  · exact point_top s i w hi (by omega) (by omega)
end
end Go.Proofs.YthoeehgnkolgpaaDoor
