/- The tables that package text reads; lists of texts; and that the program has begun. -/
import Derived.Test.YthoeehgnkolgpaaDoorFold2
import Derived.Test.YthoeehgnkolgpaaDoorMoney2
import Derived.Test.YthoeehgnkolgpaaDoorTxt4
import Derived.Lib.AppendIntMem
namespace Go.Proofs.YthoeehgnkolgpaaDoor
open Go.RowKit

/-- All tables on the way. -/
structure Tabs (m : Int) (w : World) : Prop where
  max : w.cell? ⟨5, 0, none⟩ = some (.int .i64 m)
  pow : Lib.TabIs Tryd.prog w "internal/strconv.uint64pow10" .u64 Lib.pow10Tab
  utf : Lib.Utf8Tabs 2 3 w
  fold : FoldTab w
theorem Tabs.below {m : Int} {w w' : World} (h : Tabs m w) (hb : Below w.heap.size w w') : Tabs m w' := by
  have k : ∀ {a : Addr} {v : Value}, w.cell? a = some v → w'.cell? a = some v := fun {a v} hc => (hb.cell (World.block_lt_of_cell? _ _ hc)).trans hc
  refine ⟨k h.max, ?_, ⟨fun c hc => k (h.utf.1 c hc), fun i hi => ⟨k (h.utf.2 i hi).1, k (h.utf.2 i hi).2⟩⟩, h.fold.below hb⟩
  exact Lib.tabBelow_of_tabIs h.pow w' hb

/-- A list of texts, at a slice. -/
def Strs (w : World) (a : Option Addr) (l : List (List UInt8)) : Prop := ∀ j (h : j < l.length), ∃ b o, a = some ⟨b, o, none⟩ ∧ w.cell? ⟨b, o + j, none⟩ = some (.string ⟨(l[j]'h).toArray⟩)
theorem Strs.below {w w' : World} {a : Option Addr} {l : List (List UInt8)} (h : Strs w a l) (hb : Below w.heap.size w w') : Strs w' a l := fun j hj => by
  obtain ⟨b, o, e, hc⟩ := h j hj
  exact ⟨b, o, e, (hb.cell (World.block_lt_of_cell? _ _ hc)).trans hc⟩
theorem own_strs {w : World} {K : Nat} {a : Option Addr} {n c : Nat} {ws : List (List UInt8)} (h : w.ownsRow K 9 1 (.slice a n c) ws.length (strs ws)) : n = ws.length ∧ Strs w a ws := by
  rcases h.2 with ⟨e, hn⟩ | ⟨g, cap, cur, e, _⟩
  · simp only [Value.slice.injEq] at e
    obtain ⟨rfl, rfl, _⟩ := e
    refine ⟨hn.symm, fun j hj => absurd hj (by omega)⟩
  · simp only [Value.slice.injEq] at e
    obtain ⟨rfl, rfl, _⟩ := e
    refine ⟨rfl, fun j hj => ⟨g, 0, rfl, ?_⟩⟩
    rw [Nat.zero_add]
    have := h.cells (g := g) rfl j (.string ⟨(ws[j]'hj).toArray⟩) (by simp [strs, hj])
    rw [show (⟨g, 0, none⟩ : Addr).add j = ⟨g, j, none⟩ by simp [Addr.add]; omega] at this
    exact this

theorem beq_same (s : ByteArray) : (s.toList != s.toList) = false := by simp
set_option maxHeartbeats 800000 in
theorem eqStrings_same (a b : Option Addr) (c d : Nat) (x : List (List UInt8)) (w : World) (ha : Strs w a x) (hb : Strs w b x) (hmax : x.length ≤ 140737488355328) :
    Calls Tryd.prog 23 #[.slice a x.length c, .slice b x.length d] w fun e w' => e = .returned (.bool true) ∧ ∃ m, w' = w.drewN m := by
  obtain ⟨n, hn⟩ : ∃ n, n = x.length := ⟨_, rfl⟩
  rw [← hn] at hmax ⊢
  go_enter Tryd.func23, Tryd.ntmps23
  go_wp2_with fail
  go_loopg [5] n (fun q s5 wx => ∃ (i m : Nat), i ≤ n ∧ q = n - i ∧ s5 = .int .i64 i ∧ wx = w.drewN m)
  case atStart => exact ⟨0, 0, Nat.zero_le _, rfl, rfl, rfl⟩
  case round =>
    obtain ⟨i, m, hi, rfl, rfl, rfl⟩ := hrel
    by_cases hlt : i < n
    · obtain ⟨b1, o1, rfl, hc1⟩ := ha i (by omega)
      obtain ⟨b2, o2, rfl, hc2⟩ := hb i (by omega)
      have hc1' : (w.drewN m).cell? ⟨b1, o1 + i, none⟩ = some (.string ⟨(x[i]'(by omega)).toArray⟩) := hc1
      have hc2' : (w.drewN m).cell? ⟨b2, o2 + i, none⟩ = some (.string ⟨(x[i]'(by omega)).toArray⟩) := hc2
      have hz : (i : Int) < (n : Int) := by omega
      have hq := beq_same ⟨(x[i]'(by omega)).toArray⟩
      have HD : Hid (∀ n, (w.drewN m).drewN n = w.drewN (m + n)) := fun n => World.drewN_drewN _ _ _
      generalize (⟨(x[i]'(by omega)).toArray⟩ : ByteArray) = S at *
      generalize w.drewN m = wd at *
      clear hc1 hc2 ha hb hn
      go_wp2_with fail
      go_quiet (fail)
      go_wp2_with fail
      go_roundg (n - (i + 1))
      case measure => go_light; omega
      case rel => go_light; exact ⟨i + 1, _, by omega, rfl, by simp, (unhide HD) _⟩
    · obtain rfl : i = n := by omega
      clear ha hb hn
      go_wp2_with fail
      go_ret
      exact ⟨rfl, m, rfl⟩

abbrev t1 : ByteArray := ⟨#[49, 39, 50, 51, 52, 46, 53, 48]⟩
abbrev t2 : ByteArray := ⟨#[97, 32, 34, 98, 32, 99, 34]⟩
abbrev t3 : ByteArray := ⟨#[97, 110, 110]⟩
abbrev t4 : ByteArray := ⟨#[97, 32, 98]⟩
abbrev t5 : ByteArray := ⟨#[65, 110, 110]⟩
theorem e1 : amountV t1.data.toList = .tuple #[.int .u64 123450, .int .i64 0] := by kernel_rfl
theorem e2 : wordsM t2.data.toList = some [[97], [98, 32, 99]] := by kernel_rfl
theorem e3 : checkM t3.data.toList = 0 := by kernel_rfl
theorem e4 : checkM t4.data.toList = 20 := by kernel_rfl
theorem e5 : moneyM 5 = [48, 46, 48, 53] := by
  unfold moneyM
  rw [show (5 : Nat) / 100 = 0 from rfl, Lib.decDigits]
  rfl
theorem e6 : foldM t5.data.toList = [97, 110, 110] := by kernel_rfl

theorem c1 {m : Int} (W : World) (h : Tabs m W) : Calls Tryd.prog 11 #[.string t1] W fun e w' => e = .returned (.tuple #[.int .u64 123450, .int .i64 0]) ∧ Below W.heap.size W w' := by
  have := amount_any t1 m W (by decide) h.max
  rw [e1] at this
  exact this
theorem c2 {m : Int} (W : World) (h : Tabs m W) : Calls Tryd.prog 22 #[.string t2] W fun e w' => Told W (some [[97], [98, 32, 99]]) e w' := by
  have := words_any t2 W (by decide) h.utf
  rw [e2] at this
  exact this
theorem c3 {m : Int} (W : World) (h : Tabs m W) : Calls Tryd.prog 16 #[.string t3] W fun e w' => e = .returned (.int .i64 0) ∧ Below W.heap.size W w' := by
  have := check_any t3 W (by decide) h.utf
  rw [e3] at this
  exact this
theorem c4 {m : Int} (W : World) (h : Tabs m W) : Calls Tryd.prog 16 #[.string t4] W fun e w' => e = .returned (.int .i64 20) ∧ Below W.heap.size W w' := by
  have := check_any t4 W (by decide) h.utf
  rw [e4] at this
  exact this
theorem c5 {m : Int} (W : World) (h : Tabs m W) : Calls Tryd.prog 10 #[.int .u64 5] W fun e w' => e = .returned (.string ⟨#[48, 46, 48, 53]⟩) ∧ Below W.heap.size W w' := by
  have := money_any 5 (by decide) W h.pow
  rw [e5] at this
  exact this
theorem c6 {m : Int} (W : World) (h : Tabs m W) : Calls Tryd.prog 14 #[.string t5] W fun e w' => e = .returned (.string ⟨#[97, 110, 110]⟩) ∧ Below W.heap.size W w' := by
  have := fold_any t5 W (by decide) h.fold
  rw [e6] at this
  exact this
theorem two_strs (w : World) (x y : ByteArray) (t : TypeId) : Strs (w.alloc (.cells #[.string x, .string y] t)) (some ⟨w.heap.size, 0, none⟩) [x.data.toList, y.data.toList] := fun j hj => by
  refine ⟨w.heap.size, 0, rfl, ?_⟩
  have : j = 0 ∨ j = 1 := by simp at hj; omega
  rcases this with rfl | rfl <;> simp

set_option maxHeartbeats 3200000 in
set_option maxRecDepth 100000 in
theorem begun_any (m : Int) (w : World) (hT : Tabs m w) :
    Calls Tryd.prog 9 #[] w fun e w' => e = .returned (.bool true) ∧ Below w.heap.size w w' := by
  go_enter Tryd.func9, Tryd.ntmps9
  go_wp2_with fail
  refine (c1 w hT).mono ?_
  rintro e w1 ⟨rfl, b1⟩
  have T1 := hT.below b1
  go_wp2_with fail
  refine (c2 w1 T1).mono ?_
  rintro e w2 ⟨b2, v, rfl, hown⟩
  have T2 := T1.below b2
  obtain ⟨la, lc, rfl⟩ := own_form hown
  have hS := (own_strs hown).2
  have B2 := b1.trans (b2.mono b1.size)
  clear hown b1 b2 T1
  go_wp2_with fail
  refine (c3 w2 T2).mono ?_
  rintro e w3 ⟨rfl, b3⟩
  have T3 := T2.below b3
  have hS3 := hS.below b3
  have B3 := B2.trans (b3.mono B2.size)
  clear hS b3 B2
  go_wp2_with (first | (go_at_call 12; go_in))
  refine (c4 w3 T3).mono ?_
  rintro e w4 ⟨rfl, b4⟩
  have T4 := T3.below b4
  have hS4 := hS3.below b4
  have B4 := B3.trans (b4.mono B3.size)
  clear hS3 b4 B3 T2
  go_wp2_with (first | (go_at_call 12; go_in))
  refine (c5 w4 T4).mono ?_
  rintro e w5 ⟨rfl, b5⟩
  have T5 := T4.below b5
  have hS5 := hS4.below b5
  have B5 := B4.trans (b5.mono B4.size)
  clear hS4 b5 B4 T3
  go_wp2_with (first | (go_at_call 12; go_in))
  have bA : Below w5.heap.size w5 (w5.alloc (.cells #[.string ⟨#[97]⟩, .string ⟨#[98, 32, 99]⟩] 9)) := (Below.refl _ w5).alloc (Nat.le_refl _) _
  have hSA := hS5.below bA
  have hSB := two_strs w5 ⟨#[97]⟩ ⟨#[98, 32, 99]⟩ 9
  have T6 := T5.below bA
  have B6 := B5.trans (bA.mono B5.size)
  refine (eqStrings_same la (some ⟨w5.heap.size, 0, none⟩) lc 2 [[97], [98, 32, 99]] _ hSA hSB (by decide)).mono ?_
  rintro e w6 ⟨rfl, k, rfl⟩
  have T7 : Tabs m ((w5.alloc (.cells #[.string ⟨#[97]⟩, .string ⟨#[98, 32, 99]⟩] 9)).drewN k) := T6.below (below_drewN (Below.refl _ _) _)
  have B7 := below_drewN B6 k
  clear hSA hSB bA T5 hS5 B5 T6 B6
  generalize (w5.alloc (.cells #[.string ⟨#[97]⟩, .string ⟨#[98, 32, 99]⟩] 9)).drewN k = w7 at *
  go_wp2_with fail
  refine (c6 w7 T7).mono ?_
  rintro e w8 ⟨rfl, b8⟩
  have B8 := B7.trans (b8.mono B7.size)
  go_wp2_with fail
  go_ret
  exact ⟨rfl, B8⟩
end Go.Proofs.YthoeehgnkolgpaaDoor
