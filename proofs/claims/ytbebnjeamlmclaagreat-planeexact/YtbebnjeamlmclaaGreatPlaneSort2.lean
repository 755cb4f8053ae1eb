/- Package plane: the sort of at most nine nodes. -/
import Derived.Test.YtbebnjeamlmclaaGreatPlaneSort
namespace Go.Proofs.YtbebnjeamlmclaaGreat
open Go.RowKit Go.Shelf Go.Sort
set_option maxRecDepth 100000
set_option maxRecDepth 100000

def lenRen : Ren := ⟨fun | 125 => 72 | 128 => 97 | 129 => 98 | n => n, fun | 3 => 3 | 4 => 4 | 5 => 5 | 9 => 9 | 46 => 120 | 51 => 149 | 53 => 65 | n => n, fun | n => n⟩
theorem lenL : Lays.n125 Tryz.prog lenRen := {
  mixed := by kernel_rfl
  f125 := Tryz.func72.trans (congrArg some (by kernel_rfl))
  f128 := Tryz.func97.trans (congrArg some (by kernel_rfl))
  f129 := Tryz.func98.trans (congrArg some (by kernel_rfl))
  t3 := Tryz.underlying3
  a3 := Tryz.isAgg3
  z3 := Tryz.sizeOf3
  v3 := Tryz.zeroValue3
  t4 := Tryz.underlying4
  a4 := Tryz.isAgg4
  z4 := Tryz.sizeOf4
  v4 := Tryz.zeroValue4
  t5 := Tryz.underlying5
  a5 := Tryz.isAgg5
  z5 := Tryz.sizeOf5
  v5 := Tryz.zeroValue5
  t9 := Tryz.underlying9
  a9 := Tryz.isAgg9
  z9 := Tryz.sizeOf9
  v9 := Tryz.zeroValue9
  t46 := Tryz.underlying120
  a46 := Tryz.isAgg120
  z46 := Tryz.sizeOf120
  v46 := Tryz.zeroValue120
  t51 := Tryz.underlying149
  a51 := Tryz.isAgg149
  z51 := Tryz.sizeOf149
  v51 := Tryz.zeroValue149
  t53 := Tryz.underlying65
  a53 := Tryz.isAgg65
  z53 := Tryz.sizeOf65
  v53 := Tryz.zeroValue65 }

section
variable {α : Type} [Inhabited α]

/-- A row of at most twelve: sorted by insertion. -/
theorem pdq_any (enc : α → Value) (cf : α → α → Int) (g : Nat) (cb : Array Value) (blk : Nat) (d : Array α) (lim : Int) (w : World)
    (eg : ∀ args w, (callFunc g args).run Tryz.prog w = .ok (.enter g args) w) (hcmp : CmpLays1 Tryz.prog g cb enc cf blk 0 d.size w) (R : Row1 enc w blk 0 d) (h12 : d.size ≤ 12) :
    Calls Tryz.prog 71 #[.slice (some ⟨blk, 0, none⟩) d.size d.size, .int .i64 0, .int .i64 d.size, .int .i64 lim, .func (.func g) #[] cb] w fun e w' => e = .returned (.tuple #[]) ∧ SW enc w blk 0 (Sort.insertionSort (ltOf cf) d 0 d.size) w' := by
  have hins := Any.insertionSortCmpFunc_s insL enc cf g cb blk 0 d.size 0 d.size d d w w eg hcmp R rfl (SW.start R.hH) (Nat.zero_le _) (Nat.le_refl _) (by omega)
  change Calls Tryz.prog 89 #[_, .int .i64 (0 : Int), _, _] w _ at hins
  have hz : (d.size : Int) ≤ 12 := by omega
  generalize Sort.insertionSort (ltOf cf) d 0 d.size = dd at *
  generalize d.size = n at *
  clear hcmp R eg
  go_enter Tryz.func71, Tryz.ntmps71
  go_wp2
  go_loopg [1, 2, 3] 1 (fun q a b l wr => q = 1 ∧ a = .int .i64 0 ∧ b = .int .i64 n ∧ l = .int .i64 lim ∧ wr = w)
  case atStart => exact ⟨rfl, rfl, rfl, rfl, rfl⟩
  case round =>
    obtain ⟨rfl, rfl, rfl, rfl, rfl⟩ := hrel
    go_wp2_with fail
    refine hins.mono ?_
    rintro e w' ⟨rfl, hS⟩
    go_wp2
    (try simp only [Exit.inBlock, Exit.then]); refine bodyPost_ret (results_none rfl _ _ _) rfl ?_
    exact ⟨rfl, hS⟩

theorem sort_any (enc : α → Value) (cf : α → α → Int) (g : Nat) (cb : Array Value) (blk : Nat) (d : Array α) (w : World)
    (eg : ∀ args w, (callFunc g args).run Tryz.prog w = .ok (.enter g args) w) (hcmp : CmpLays1 Tryz.prog g cb enc cf blk 0 d.size w) (R : Row1 enc w blk 0 d) (h12 : d.size ≤ 12) :
    Calls Tryz.prog 34 #[.slice (some ⟨blk, 0, none⟩) d.size d.size, .func (.func g) #[] cb] w fun e w' => e = .returned (.tuple #[]) ∧ SW enc w blk 0 (Sort.insertionSort (ltOf cf) d 0 d.size) w' := by
  have hp := fun lim => pdq_any enc cf g cb blk d lim w eg hcmp R h12
  have hl := Any.bits_Len lenL d.size w (by omega) (by omega)
  change Calls Tryz.prog 72 _ _ _ at hl
  generalize Sort.insertionSort (ltOf cf) d 0 d.size = dd at *
  have hz : (d.size : Int) ≤ 12 := by omega
  generalize d.size = n at *
  clear hcmp R eg
  go_enter Tryz.func34, Tryz.ntmps34
  go_wp2_with fail
  refine hl.mono ?_
  rintro e w' ⟨rfl, rfl⟩
  go_wp2_with fail
  refine (hp _).mono ?_
  rintro e w2 ⟨rfl, hS⟩
  go_wp2
  go_end0
  exact ⟨rfl, hS⟩
end
end Go.Proofs.YtbebnjeamlmclaaGreat
