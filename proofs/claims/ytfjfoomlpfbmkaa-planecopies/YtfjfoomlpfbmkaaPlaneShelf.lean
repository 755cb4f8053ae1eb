/- The library's contracts that package plane's calls lean on, laid at this program's numbers. -/
import Derived.Test.YtfjfoomlpfbmkaaPlaneKit
import Derived.Shelf.SlSorted.Search
import Derived.Shelf.Small.Wraps
import Derived.Shelf.Slices.Clone
import Derived.Shelf.SlSortCmp.Insertion1
import Derived.Shelf.Small.Bits
namespace Go.Proofs.Ytfjfoomlpfbmkaa
open Go.RowKit Go.Shelf
set_option maxRecDepth 100000

def searchRen : Ren := ⟨fun | 16 => 31 | n => n, fun | 3 => 3 | 4 => 4 | 35 => 59 | 38 => 62 | n => n, fun | n => n⟩
theorem searchL : SlLaysO.n16 Try.prog searchRen := {
  mixed := by kernel_rfl
  f16 := Try.func31.trans (congrArg some (by kernel_rfl))
  t3 := Try.underlying3
  a3 := Try.isAgg3
  z3 := Try.sizeOf3
  v3 := Try.zeroValue3
  t4 := Try.underlying4
  a4 := Try.isAgg4
  z4 := Try.sizeOf4
  v4 := Try.zeroValue4
  t35 := Try.underlying59
  a35 := Try.isAgg59
  z35 := Try.sizeOf59
  v35 := Try.zeroValue59
  t38 := Try.underlying62
  a38 := Try.isAgg62
  z38 := Try.sizeOf62
  v38 := Try.zeroValue62 }

def compareRen : Ren := ⟨fun | 122 => 30 | 215 => 36 | n => n, fun | 3 => 3 | 4 => 4 | n => n, fun | n => n⟩
theorem compareL : Lays.n122 Try.prog compareRen := {
  mixed := by kernel_rfl
  f122 := Try.func30.trans (congrArg some (by kernel_rfl))
  f215 := Try.func36.trans (congrArg some (by kernel_rfl))
  t3 := Try.underlying3
  a3 := Try.isAgg3
  z3 := Try.sizeOf3
  v3 := Try.zeroValue3
  t4 := Try.underlying4
  a4 := Try.isAgg4
  z4 := Try.sizeOf4
  v4 := Try.zeroValue4 }

def cloneRen : Ren := ⟨fun | 15 => 20 | n => n, fun | 3 => 3 | 4 => 4 | 22 => 25 | n => n, fun | n => n⟩
theorem cloneL : Lays2.n15 Try.prog cloneRen := {
  mixed := by kernel_rfl
  f15 := Try.func20.trans (congrArg some (by kernel_rfl))
  t3 := Try.underlying3
  a3 := Try.isAgg3
  z3 := Try.sizeOf3
  v3 := Try.zeroValue3
  t4 := Try.underlying4
  a4 := Try.isAgg4
  z4 := Try.sizeOf4
  v4 := Try.zeroValue4
  t22 := Try.underlying25
  a22 := Try.isAgg25
  z22 := Try.sizeOf25
  v22 := Try.zeroValue25
  i3 := by kernel_rfl }

def insRen : Ren := ⟨fun | 20 => 37 | n => n, fun | 0 => 0 | 3 => 3 | 4 => 4 | 22 => 25 | 24 => 3 | 25 => 24 | n => n, fun | n => n⟩
theorem insL : SlLaysF.n20 Try.prog insRen := {
  mixed := by kernel_rfl
  f20 := ⟨"slices.insertionSortCmpFunc[int]", rfl, Try.func37.trans (congrArg some (by kernel_rfl))⟩
  t0 := Try.underlying0
  a0 := Try.isAgg0
  z0 := Try.sizeOf0
  v0 := Try.zeroValue0
  t3 := Try.underlying3
  a3 := Try.isAgg3
  z3 := Try.sizeOf3
  v3 := Try.zeroValue3
  t4 := Try.underlying4
  a4 := Try.isAgg4
  z4 := Try.sizeOf4
  v4 := Try.zeroValue4
  t22 := Try.underlying25
  a22 := Try.isAgg25
  z22 := Try.sizeOf25
  v22 := Try.zeroValue25
  a24 := Try.isAgg3
  z24 := Try.sizeOf3
  t25 := Try.underlying24
  a25 := Try.isAgg24
  z25 := Try.sizeOf24
  v25 := Try.zeroValue24 }
end Go.Proofs.Ytfjfoomlpfbmkaa
