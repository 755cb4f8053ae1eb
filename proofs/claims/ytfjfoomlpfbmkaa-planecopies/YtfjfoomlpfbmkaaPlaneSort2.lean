/- Package plane: the sort of at most nine nodes. -/
import Derived.Test.YtfjfoomlpfbmkaaPlaneSort
namespace Go.Proofs.Ytfjfoomlpfbmkaa
open Go.RowKit Go.Shelf Go.Sort
set_option maxRecDepth 100000
set_option maxRecDepth 100000

def lenRen : Ren := ⟨fun | 125 => 35 | 128 => 45 | 129 => 46 | n => n, fun | 3 => 3 | 4 => 4 | 5 => 5 | 9 => 9 | 46 => 62 | 51 => 73 | 53 => 75 | n => n, fun | n => n⟩
theorem lenL : Lays.n125 Try.prog lenRen := {
  mixed := by kernel_rfl
  f125 := Try.func35.trans (congrArg some (by kernel_rfl))
  f128 := Try.func45.trans (congrArg some (by kernel_rfl))
  f129 := Try.func46.trans (congrArg some (by kernel_rfl))
  t3 := Try.underlying3
  a3 := Try.isAgg3
  z3 := Try.sizeOf3
  v3 := Try.zeroValue3
  t4 := Try.underlying4
  a4 := Try.isAgg4
  z4 := Try.sizeOf4
  v4 := Try.zeroValue4
  t5 := Try.underlying5
  a5 := Try.isAgg5
  z5 := Try.sizeOf5
  v5 := Try.zeroValue5
  t9 := Try.underlying9
  a9 := Try.isAgg9
  z9 := Try.sizeOf9
  v9 := Try.zeroValue9
  t46 := Try.underlying62
  a46 := Try.isAgg62
  z46 := Try.sizeOf62
  v46 := Try.zeroValue62
  t51 := Try.underlying73
  a51 := Try.isAgg73
  z51 := Try.sizeOf73
  v51 := Try.zeroValue73
  t53 := Try.underlying75
  a53 := Try.isAgg75
  z53 := Try.sizeOf75
  v53 := Try.zeroValue75 }

section
variable {α : Type} [Inhabited α]

/-- A row of at most twelve: sorted by insertion. -/
theorem pdq_any (enc : α → Value) (cf : α → α → Int) (g : Nat) (cb : Array Value) (blk : Nat) (d : Array α) (lim : Int) (w : World)
    (eg : ∀ args w, (callFunc g args).run Try.prog w = .ok (.enter g args) w) (hcmp : CmpLays1 Try.prog g cb enc cf blk 0 d.size w) (R : Row1 enc w blk 0 d) (h12 : d.size ≤ 12) :
    Calls Try.prog 34 #[.slice (some ⟨blk, 0, none⟩) d.size d.size, .int .i64 0, .int .i64 d.size, .int .i64 lim, .func (.func g) #[] cb] w fun e w' => e = .returned (.tuple #[]) ∧ SW enc w blk 0 (Sort.insertionSort (ltOf cf) d 0 d.size) w' := by
  have hins := Any.insertionSortCmpFunc_s insL enc cf g cb blk 0 d.size 0 d.size d d w w eg hcmp R rfl (SW.start R.hH) (Nat.zero_le _) (Nat.le_refl _) (by omega)
  change Calls Try.prog 37 #[_, .int .i64 (0 : Int), _, _] w _ at hins
  have hz : (d.size : Int) ≤ 12 := by omega
  generalize Sort.insertionSort (ltOf cf) d 0 d.size = dd at *
  generalize d.size = n at *
  clear hcmp R eg
  go_enter Try.func34, Try.ntmps34
  go_wp2
  go_loopg [1, 2, 3] 1 (fun q a b l wr => q = 1 ∧ a = .int .i64 0 ∧ b = .int .i64 n ∧ l = .int .i64 lim ∧ wr = w)
  case atStart => exact ⟨rfl, rfl, rfl, rfl, rfl⟩
  case round =>
    obtain ⟨rfl, rfl, rfl, rfl, rfl⟩ := hrel
    go_wp2_with fail
    refine hins.mono ?_
    rintro e w' ⟨rfl, hS⟩
    go_wp2
    (try simp only [Exit.inBlock, Exit.then]); refine bodyPost_ret (results_none rfl _ _ _) rfl ?_
    exact ⟨rfl, hS⟩

theorem sort_any (enc : α → Value) (cf : α → α → Int) (g : Nat) (cb : Array Value) (blk : Nat) (d : Array α) (w : World)
    (eg : ∀ args w, (callFunc g args).run Try.prog w = .ok (.enter g args) w) (hcmp : CmpLays1 Try.prog g cb enc cf blk 0 d.size w) (R : Row1 enc w blk 0 d) (h12 : d.size ≤ 12) :
    Calls Try.prog 27 #[.slice (some ⟨blk, 0, none⟩) d.size d.size, .func (.func g) #[] cb] w fun e w' => e = .returned (.tuple #[]) ∧ SW enc w blk 0 (Sort.insertionSort (ltOf cf) d 0 d.size) w' := by
  have hp := fun lim => pdq_any enc cf g cb blk d lim w eg hcmp R h12
  have hl := Any.bits_Len lenL d.size w (by omega) (by omega)
  change Calls Try.prog 35 _ _ _ at hl
  generalize Sort.insertionSort (ltOf cf) d 0 d.size = dd at *
  have hz : (d.size : Int) ≤ 12 := by omega
  generalize d.size = n at *
  clear hcmp R eg
  go_enter Try.func27, Try.ntmps27
  go_wp2_with fail
  refine hl.mono ?_
  rintro e w' ⟨rfl, rfl⟩
  go_wp2_with fail
  refine (hp _).mono ?_
  rintro e w2 ⟨rfl, hS⟩
  go_wp2
  go_end0
  exact ⟨rfl, hS⟩
end
end Go.Proofs.Ytfjfoomlpfbmkaa
