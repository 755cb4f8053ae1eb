/- What Home answers of any name. -/
import Derived.Test.YthoeehgnkolgpaaDoorSum2
import Derived.Test.YthoeehgnkolgpaaDoorFoldMath2
import Derived.Test.YthoeehgnkolgpaaDoorBegun
namespace Go.Proofs.YthoeehgnkolgpaaDoor
open Go.RowKit

/-- The table of package code. -/
def SumTab (w : World) : Prop := ∀ i, i < 16 → w.cell? ⟨1, i, none⟩ = some (.int .u32 (Crc.T i : Nat))
theorem SumTab.below {w w' : World} (h : SumTab w) (hb : Below w.heap.size w w') : SumTab w' := fun i hi => (hb.cell (World.block_lt_of_cell? _ _ (h i hi))).trans (h i hi)
def nums (l : List UInt8) : List Nat := l.map (·.toNat)
theorem nums_get (l : List UInt8) (j : Nat) (h : j < l.length) : (nums l).getD j 0 = (l[j]'h).toNat := by simp [nums, List.getD, h]
theorem nums_lt (l : List UInt8) (j : Nat) : (nums l).getD j 0 < 256 := by
  by_cases h : j < l.length
  · rw [nums_get l j h]; exact UInt8.toNat_lt _
  · have : (nums l)[j]? = none := by simp [nums]; omega
    simp [List.getD, this]
theorem sum_row (b c : Nat) (l : List UInt8) (w : World) (hmax : l.length ≤ 9223372036854775807) (hR : Row8 w b l) (ht : SumTab w) :
    Calls Tryd.prog 38 #[.slice (some ⟨b, 0, none⟩) l.length c] w fun e w' => e = .returned (.int .u32 (Crc.sum (nums l) : Nat)) ∧ w' = w :=
  sum_any b 0 l.length c (nums l) w (by simp [nums]) hmax (fun j hj => by rw [Nat.zero_add, nums_get l j hj]; exact hR.cell j hj) (nums_lt l) ht
theorem sum_lt (l : List UInt8) : Crc.sum (nums l) < 4294967296 := by
  unfold Crc.sum
  refine Nat.xor_lt_two_pow (n := 32) (Crc.fold_lt _ _ (by decide) (fun c hc => ?_)) (by decide)
  simp only [nums, List.mem_map] at hc
  obtain ⟨b, _, rfl⟩ := hc
  exact UInt8.toNat_lt _
/-- The shard of a folded name. -/
def homeM (l : List UInt8) (n : Int) : Int := if n < 1 then 0 else ((Crc.sum (nums l) : Nat) : Int) % n
theorem homeM_range (l : List UInt8) (n : Int) : homeM l n = 0 ∨ (0 ≤ homeM l n ∧ homeM l n < n) := by
  unfold homeM
  split
  · exact Or.inl rfl
  · exact Or.inr ⟨Int.emod_nonneg _ (by omega), Int.emod_lt_of_pos _ (by omega)⟩

set_option maxHeartbeats 1600000 in
set_option maxRecDepth 100000 in
theorem home_any (s : ByteArray) (n : Int) (w : World) (hmax : s.size ≤ 140737488355328) (hn0 : -9223372036854775808 ≤ n) (hn1 : n ≤ 9223372036854775807) (hF : FoldTab w) (hS : SumTab w) :
    Calls Tryd.prog 15 #[.string s, .int .i64 n] w fun e w' => e = .returned (.int .i64 (homeM (foldM s.data.toList) n)) ∧ Below w.heap.size w w' := by
  have hf := fold_any s w (by omega) hF
  have hlen := fold_length s.data.toList
  rw [list_size] at hlen
  unfold homeM
  go_enter Tryd.func15, Tryd.ntmps15
  by_cases h1 : n < 1
  · rw [if_pos h1]
    clear hf
    go_wp2_with fail
    go_ret
    exact ⟨rfl, Below.refl _ _⟩
  · rw [if_neg h1]
    have hlt := sum_lt (foldM s.data.toList)
    obtain ⟨F, hFd⟩ : ∃ F : ByteArray, F = ⟨(foldM s.data.toList).toArray⟩ := ⟨_, rfl⟩
    have hFl : F.data.toList = foldM s.data.toList := by rw [hFd]
    have hFs : F.size = s.size := by rw [← list_size, hFl, hlen]
    rw [← hFd] at hf
    clear hFd
    have HFl := hide hFl
    have HFs := hide hFs
    rw [← hFl] at hlt ⊢
    clear hFl hFs hlen
    obtain ⟨X, hX⟩ : ∃ X, X = Crc.sum (nums F.data.toList) := ⟨_, rfl⟩
    rw [← hX] at hlt ⊢
    have HX := hide hX
    clear hX
    have w1 : IntKind.u64.wrap n = n := wr_u64 (by omega) (by omega)
    have w2 : ((X : Int) % n) < n := Int.emod_lt_of_pos _ (by omega)
    have w3 : 0 ≤ ((X : Int) % n) := Int.emod_nonneg _ (by omega)
    have w4 : IntKind.i64.wrap ((X : Int) % n) = (X : Int) % n := wr_i64 (by omega) (by omega)
    have w5 : IntKind.u64.wrap ((X : Int) % n) = (X : Int) % n := wr_u64 (by omega) (by omega)
    have w6 : (X : Int).tmod n = (X : Int) % n := Int.tmod_eq_emod_of_nonneg (by omega)
    have w7 : ¬ n = 0 := by omega
    go_wp2_with fail
    refine hf.mono ?_
    rintro e wa ⟨rfl, ba⟩
    have hcv := Lib.run_convert_string_bytes (P := Tryd.prog) wa 9 40 5 F Tryd.underlying9 Tryd.underlying40 Tryd.underlying5
    have hrow := hide (bytes_row wa F)
    have hbel := bytes_below wa F
    have B1 := ba.trans (hbel.mono ba.size)
    have hsr := sum_row wa.heap.size (grownCap wa F.size 0 5) F.data.toList (Lib.bytesWorld wa 5 F) (by rw [list_size, HFs.out]; omega) hrow.out (hS.below B1)
    rw [list_size, ← HX.out] at hsr
    generalize grownCap wa F.size 0 5 = C at *
    generalize Lib.bytesWorld wa 5 F = wb at *
    clear hf hF hS
    go_wp2_with fail
    refine hsr.mono ?_
    rintro e wc ⟨rfl, ec⟩
    subst ec
    go_wp2_with fail
    go_ret
    exact ⟨rfl, B1⟩
end Go.Proofs.YthoeehgnkolgpaaDoor
