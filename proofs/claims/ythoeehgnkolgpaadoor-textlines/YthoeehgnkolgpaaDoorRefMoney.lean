/- The reference's Money: what it answers of any number. -/
import Derived.Test.YthoeehgnkolgpaaDoorMoneyMath
import Derived.Deep.LoopGhost
import Derived.Deep.Light
namespace Go.Proofs.YthoeehgnkolgpaaDoor
open Go.RowKit

theorem marked_app3 : ∀ (t : List UInt8) (a b c : UInt8), marked false (t ++ [a, b, c]) = marked false t ++ [39, a, b, c]
  | [], a, b, c => by simp [marked]
  | x :: t, a, b, c => by
    have ih := marked_app3 t a b c
    rw [List.cons_append]
    show (if false = false ∧ ((t ++ [a, b, c]).length + 1) % 3 = 0 then [39, x] else [x]) ++ marked false (t ++ [a, b, c]) = ((if false = false ∧ (t.length + 1) % 3 = 0 then [39, x] else [x]) ++ marked false t) ++ _
    rw [ih]
    have e : ((t ++ [a, b, c]).length + 1) % 3 = (t.length + 1) % 3 := by simp; omega
    rw [e, List.append_assoc]
theorem dec_three {q a b c : Nat} (hq : 1 ≤ q) (ha : a ≤ 9) (hb : b ≤ 9) (hc : c ≤ 9) : Lib.decDigits (1000 * q + (100 * a + 10 * b + c)) = Lib.decDigits q ++ [UInt8.ofNat (48 + a), UInt8.ofNat (48 + b), UInt8.ofNat (48 + c)] := by
  rw [Lib.decDigits, dif_neg (by omega), show (1000 * q + (100 * a + 10 * b + c)) / 10 = 100 * q + 10 * a + b by omega, show (1000 * q + (100 * a + 10 * b + c)) % 10 = c by omega]
  rw [Lib.decDigits, dif_neg (by omega), show (100 * q + 10 * a + b) / 10 = 10 * q + a by omega, show (100 * q + 10 * a + b) % 10 = b by omega]
  rw [Lib.decDigits, dif_neg (by omega), show (10 * q + a) / 10 = q by omega, show (10 * q + a) % 10 = a by omega]
  simp
theorem marked_dec {q a b c : Nat} (hq : 1 ≤ q) (ha : a ≤ 9) (hb : b ≤ 9) (hc : c ≤ 9) : marked true (Lib.decDigits (1000 * q + (100 * a + 10 * b + c))) = marked true (Lib.decDigits q) ++ [39, UInt8.ofNat (48 + a), UInt8.ofNat (48 + b), UInt8.ofNat (48 + c)] := by
  rw [dec_three hq ha hb hc]
  obtain ⟨x, t, e, _⟩ := dec_head q hq
  rw [e, List.cons_append, marked_true, marked_true, marked_app3]
  rfl
theorem str_cells (W : World) (l : List UInt8) (c : Nat) : (convert 40 9 (.slice (some ⟨W.heap.size, 0, none⟩) l.length c)).run Tryd.prog (W.alloc (.cells (Lib.byteCells l).toArray 5)) = .ok (.string ⟨l.toArray⟩) (W.alloc (.cells (Lib.byteCells l).toArray 5)) :=
  run_convert_bytes_back (P := Tryd.prog) (W.alloc (.cells (Lib.byteCells l).toArray 5)) 40 9 5 ⟨W.heap.size, 0, none⟩ c l Tryd.underlying40 Tryd.underlying5 Tryd.underlying9 (fun j hj => by
    rw [show (⟨W.heap.size, 0, none⟩ : Addr).add j = ⟨W.heap.size, j, none⟩ by simp [Addr.add]; omega]
    simp [Lib.byteCells, hj])
theorem of_small {x : Nat} (h : x < 256) : ((UInt8.ofNat x).toNat : Int) = (x : Int) := by simp; omega
section
set_option maxRecDepth 100000
theorem str3 (W : World) (x y z : Nat) (hx : x < 256) (hy : y < 256) (hz : z < 256) : (convert 40 9 (.slice (some ⟨W.heap.size, 0, none⟩) 3 3)).run Tryd.prog (W.alloc (.cells #[.int .u8 (x : Int), .int .u8 (y : Int), .int .u8 (z : Int)] 5)) = .ok (.string ⟨#[UInt8.ofNat x, UInt8.ofNat y, UInt8.ofNat z]⟩) (W.alloc (.cells #[.int .u8 (x : Int), .int .u8 (y : Int), .int .u8 (z : Int)] 5)) := by
  have h := str_cells W [UInt8.ofNat x, UInt8.ofNat y, UInt8.ofNat z] 3
  simp only [Lib.byteCells, List.map, of_small hx, of_small hy, of_small hz] at h
  exact h
theorem str2 (W : World) (x y : Nat) (hx : x < 256) (hy : y < 256) : (convert 40 9 (.slice (some ⟨W.heap.size, 0, none⟩) 2 2)).run Tryd.prog (W.alloc (.cells #[.int .u8 (x : Int), .int .u8 (y : Int)] 5)) = .ok (.string ⟨#[UInt8.ofNat x, UInt8.ofNat y]⟩) (W.alloc (.cells #[.int .u8 (x : Int), .int .u8 (y : Int)] 5)) := by
  have h := str_cells W [UInt8.ofNat x, UInt8.ofNat y] 2
  simp only [Lib.byteCells, List.map, of_small hx, of_small hy] at h
  exact h
theorem str1 (W : World) (x : Nat) (hx : x < 256) : (convert 40 9 (.slice (some ⟨W.heap.size, 0, none⟩) 1 1)).run Tryd.prog (W.alloc (.cells #[.int .u8 (x : Int)] 5)) = .ok (.string ⟨#[UInt8.ofNat x]⟩) (W.alloc (.cells #[.int .u8 (x : Int)] 5)) := by
  have h := str_cells W [UInt8.ofNat x] 1
  simp only [Lib.byteCells, List.map, of_small hx] at h
  exact h
theorem dots (W : World) (x y : Nat) (hx : x ≤ 9) (hy : y ≤ 9) : (convert 40 9 (.slice (some ⟨W.heap.size, 0, none⟩) 3 3)).run Tryd.prog (W.alloc (.cells #[.int .u8 46, .int .u8 (48 + (x : Int)), .int .u8 (48 + (y : Int))] 5)) = .ok (.string ⟨#[46, UInt8.ofNat (48 + x), UInt8.ofNat (48 + y)]⟩) (W.alloc (.cells #[.int .u8 46, .int .u8 (48 + (x : Int)), .int .u8 (48 + (y : Int))] 5)) := by
  have h := str3 W 46 (48 + x) (48 + y) (by omega) (by omega) (by omega)
  simp only [Int.natCast_add] at h
  exact h
theorem digs3 (W : World) (x y z : Nat) (hx : x ≤ 9) (hy : y ≤ 9) (hz : z ≤ 9) : (convert 40 9 (.slice (some ⟨W.heap.size, 0, none⟩) 3 3)).run Tryd.prog (W.alloc (.cells #[.int .u8 (48 + (x : Int)), .int .u8 (48 + (y : Int)), .int .u8 (48 + (z : Int))] 5)) = .ok (.string ⟨#[UInt8.ofNat (48 + x), UInt8.ofNat (48 + y), UInt8.ofNat (48 + z)]⟩) (W.alloc (.cells #[.int .u8 (48 + (x : Int)), .int .u8 (48 + (y : Int)), .int .u8 (48 + (z : Int))] 5)) := by
  have h := str3 W (48 + x) (48 + y) (48 + z) (by omega) (by omega) (by omega)
  simp only [Int.natCast_add] at h
  exact h
theorem digs2 (W : World) (x y : Nat) (hx : x ≤ 9) (hy : y ≤ 9) : (convert 40 9 (.slice (some ⟨W.heap.size, 0, none⟩) 2 2)).run Tryd.prog (W.alloc (.cells #[.int .u8 (48 + (x : Int)), .int .u8 (48 + (y : Int))] 5)) = .ok (.string ⟨#[UInt8.ofNat (48 + x), UInt8.ofNat (48 + y)]⟩) (W.alloc (.cells #[.int .u8 (48 + (x : Int)), .int .u8 (48 + (y : Int))] 5)) := by
  have h := str2 W (48 + x) (48 + y) (by omega) (by omega)
  simp only [Int.natCast_add] at h
  exact h
theorem digs1 (W : World) (x : Nat) (hx : x ≤ 9) : (convert 40 9 (.slice (some ⟨W.heap.size, 0, none⟩) 1 1)).run Tryd.prog (W.alloc (.cells #[.int .u8 (48 + (x : Int))] 5)) = .ok (.string ⟨#[UInt8.ofNat (48 + x)]⟩) (W.alloc (.cells #[.int .u8 (48 + (x : Int))] 5)) := by
  have h := str1 W (48 + x) (by omega)
  simp only [Int.natCast_add] at h
  exact h
end
theorem join_data (a b : ByteArray) : (a ++ b).data.toList = a.data.toList ++ b.data.toList := by simp
theorem same_data {a b : ByteArray} (h : a.data.toList = b.data.toList) : a = b := by
  cases a; cases b; simp at h; simp [h]

set_option maxHeartbeats 3200000 in
set_option maxRecDepth 100000 in
theorem refMoney_any (n : Nat) (hn : n < 18446744073709551616) (w : World) :
    Calls Tryd.prog 18 #[.int .u64 n] w fun e w' => e = .returned (.string ⟨(moneyM n).toArray⟩) ∧ Below w.heap.size w w' := by
  obtain ⟨q, d1, d2, h1, h2, rfl⟩ : ∃ q d1 d2, d1 ≤ 9 ∧ d2 ≤ 9 ∧ n = 100 * q + (10 * d1 + d2) := ⟨n / 100, n % 100 / 10, n % 10, by omega, by omega, by omega⟩
  have hmon : moneyM (100 * q + (10 * d1 + d2)) = marked true (Lib.decDigits q) ++ [46, UInt8.ofNat (48 + d1), UInt8.ofNat (48 + d2)] := by
    unfold moneyM
    rw [show (100 * q + (10 * d1 + d2)) / 100 = q by omega, show (100 * q + (10 * d1 + d2)) % 100 / 10 = d1 by omega, show (100 * q + (10 * d1 + d2)) % 10 = d2 by omega]
  rw [hmon]
  clear hmon
  have hq : q < 184467440737095517 := by omega
  have w1 : (100 * (q : Int) + (10 * (d1 : Int) + (d2 : Int))) / 100 = (q : Int) := by omega
  have w2 : (100 * (q : Int) + (10 * (d1 : Int) + (d2 : Int))) - 100 * (q : Int) = 10 * (d1 : Int) + (d2 : Int) := by omega
  have w3 : (10 * (d1 : Int) + (d2 : Int)) / 10 = (d1 : Int) := by omega
  have w4 : (10 * (d1 : Int) + (d2 : Int)) % 10 = (d2 : Int) := by omega
  have k1 := fun W => dots W d1 d2 h1 h2
  obtain ⟨ANS, hANS⟩ : ∃ A, A = marked true (Lib.decDigits q) ++ [46, UInt8.ofNat (48 + d1), UInt8.ofNat (48 + d2)] := ⟨_, rfl⟩
  rw [← hANS]
  have HANS := hide hANS
  have hA : ANS.length ≤ 43 := by
    have e1 : (Lib.decDigits q).length ≤ 20 := by rw [Lib.decDigits_length]; exact Lib.nDigits_le20 _ (by omega)
    have e2 := marked_le (Lib.decDigits q) true
    rw [hANS, List.length_append]
    simp only [List.length_cons, List.length_nil]
    omega
  clear hANS
  generalize UInt8.ofNat (48 + d1) = D1 at *
  generalize UInt8.ofNat (48 + d2) = D2 at *
  go_enter Tryd.func18, Tryd.ntmps18
  go_wp2_with fail
  clear k1 w2 w3 w4
  go_loopg [3, 5] q (fun c s3 s5 wx => ∃ (u : Nat) (S : ByteArray), u ≤ q ∧ u = c ∧ s3 = .int .u64 u ∧ s5 = .string S ∧ Below w.heap.size w wx ∧ Hid (marked true (Lib.decDigits u) ++ S.data.toList = ANS))
  case atStart => exact ⟨q, _, Nat.le_refl _, rfl, by rw [w1], rfl, (Below.refl _ w).alloc (Nat.le_refl _) _, hide HANS.out.symm⟩
  case round =>
    obtain ⟨u, S, hu, rfl, rfl, rfl, hbw, hr⟩ := hrel
    clear w1 HANS
    have hS : S.size ≤ 43 := by
      have := congrArg List.length hr.out
      rw [List.length_append, list_size] at this
      omega
    by_cases h1000 : 1000 ≤ u
    · obtain ⟨v, a, b, c, hv, ha, hb, hc, rfl⟩ : ∃ v a b c, 1 ≤ v ∧ a ≤ 9 ∧ b ≤ 9 ∧ c ≤ 9 ∧ u = 1000 * v + (100 * a + 10 * b + c) := ⟨u / 1000, u % 1000 / 100, u % 100 / 10, u % 10, by omega, by omega, by omega, by omega, by omega⟩
      have hst : Hid (marked true (Lib.decDigits v) ++ (((⟨#[39]⟩ : ByteArray) ++ ⟨#[UInt8.ofNat (48 + a), UInt8.ofNat (48 + b), UInt8.ofNat (48 + c)]⟩) ++ S).data.toList = ANS) := hide (by
        rw [← hr.out, marked_dec hv ha hb hc, join_data, join_data]
        simp)
      have k1 := fun W => digs3 W a b c ha hb hc
      have x0 : (1000 : Int) ≤ 1000 * (v : Int) + (100 * (a : Int) + 10 * (b : Int) + (c : Int)) := by omega
      have x1 : (1000 * (v : Int) + (100 * (a : Int) + 10 * (b : Int) + (c : Int))) % 1000 = 100 * (a : Int) + 10 * (b : Int) + (c : Int) := by omega
      have x2 : (1000 * (v : Int) + (100 * (a : Int) + 10 * (b : Int) + (c : Int))) / 1000 = (v : Int) := by omega
      have x3 : (100 * (a : Int) + 10 * (b : Int) + (c : Int)) / 100 = (a : Int) := by omega
      have x4 : (100 * (a : Int) + 10 * (b : Int) + (c : Int)) / 10 % 10 = (b : Int) := by omega
      have x5 : (100 * (a : Int) + 10 * (b : Int) + (c : Int)) % 10 = (c : Int) := by omega
      clear hr
      generalize UInt8.ofNat (48 + a) = DA at *
      generalize UInt8.ofNat (48 + b) = DB at *
      generalize UInt8.ofNat (48 + c) = DC at *
      go_wp2_with fail
      go_roundg v
      case measure => go_light; omega
      case rel => go_light; exact ⟨v, _, by omega, rfl, by simp [x2], rfl, hbw.trans ((Below.refl _ _).alloc hbw.size _), hst⟩
    · have x0 : ¬ (1000 : Int) ≤ (u : Int) := by omega
      by_cases h100 : 100 ≤ u
      · obtain ⟨a, b, c, ha1, ha, hb, hc, rfl⟩ : ∃ a b c, 1 ≤ a ∧ a ≤ 9 ∧ b ≤ 9 ∧ c ≤ 9 ∧ u = 100 * a + 10 * b + c := ⟨u / 100, u % 100 / 10, u % 10, by omega, by omega, by omega, by omega, by omega⟩
        have k1 := fun W => digs3 W a b c ha hb hc
        have y0 : (100 : Int) ≤ 100 * (a : Int) + 10 * (b : Int) + (c : Int) := by omega
        have x3 : (100 * (a : Int) + 10 * (b : Int) + (c : Int)) / 100 = (a : Int) := by omega
        have x4 : (100 * (a : Int) + 10 * (b : Int) + (c : Int)) / 10 % 10 = (b : Int) := by omega
        have x5 : (100 * (a : Int) + 10 * (b : Int) + (c : Int)) % 10 = (c : Int) := by omega
        have hst : Hid ((⟨#[UInt8.ofNat (48 + a), UInt8.ofNat (48 + b), UInt8.ofNat (48 + c)]⟩ : ByteArray) ++ S = ⟨ANS.toArray⟩) := hide (same_data (by
          rw [join_data, ← hr.out]
          rw [Lib.decDigits, dif_neg (by omega), Lib.decDigits, dif_neg (by omega), Lib.decDigits, dif_pos (by omega)]
          rw [show (100 * a + 10 * b + c) / 10 / 10 = a by omega, show (100 * a + 10 * b + c) / 10 % 10 = b by omega, show (100 * a + 10 * b + c) % 10 = c by omega]
          simp [marked]))
        clear hr
        generalize UInt8.ofNat (48 + a) = DA at *
        generalize UInt8.ofNat (48 + b) = DB at *
        generalize UInt8.ofNat (48 + c) = DC at *
        go_wp2_with fail
        go_ret
        exact ⟨by rw [← hst.out]; rfl, hbw.trans ((Below.refl _ _).alloc hbw.size _)⟩
      · have y0 : ¬ (100 : Int) ≤ (u : Int) := by omega
        by_cases h10 : 10 ≤ u
        · obtain ⟨b, c, hb1, hb, hc, rfl⟩ : ∃ b c, 1 ≤ b ∧ b ≤ 9 ∧ c ≤ 9 ∧ u = 10 * b + c := ⟨u / 10, u % 10, by omega, by omega, by omega, by omega⟩
          have k1 := fun W => digs2 W b c hb hc
          have z0 : (10 : Int) ≤ 10 * (b : Int) + (c : Int) := by omega
          have x4 : (10 * (b : Int) + (c : Int)) / 10 = (b : Int) := by omega
          have x5 : (10 * (b : Int) + (c : Int)) % 10 = (c : Int) := by omega
          have hst : Hid ((⟨#[UInt8.ofNat (48 + b), UInt8.ofNat (48 + c)]⟩ : ByteArray) ++ S = ⟨ANS.toArray⟩) := hide (same_data (by
            rw [join_data, ← hr.out]
            rw [Lib.decDigits, dif_neg (by omega), Lib.decDigits, dif_pos (by omega)]
            rw [show (10 * b + c) / 10 = b by omega, show (10 * b + c) % 10 = c by omega]
            simp [marked]))
          clear hr
          generalize UInt8.ofNat (48 + b) = DB at *
          generalize UInt8.ofNat (48 + c) = DC at *
          go_wp2_with fail
          go_ret
          exact ⟨by rw [← hst.out]; rfl, hbw.trans ((Below.refl _ _).alloc hbw.size _)⟩
        · have z0 : ¬ (10 : Int) ≤ (u : Int) := by omega
          have k1 := fun W => digs1 W u (by omega)
          have hst : Hid ((⟨#[UInt8.ofNat (48 + u)]⟩ : ByteArray) ++ S = ⟨ANS.toArray⟩) := hide (same_data (by
            rw [join_data, ← hr.out]
            rw [Lib.decDigits, dif_pos (by omega)]
            simp [marked]))
          clear hr
          generalize UInt8.ofNat (48 + u) = DU at *
          go_wp2_with fail
          go_ret
          exact ⟨by rw [← hst.out]; rfl, hbw.trans ((Below.refl _ _).alloc hbw.size _)⟩
end Go.Proofs.YthoeehgnkolgpaaDoor
