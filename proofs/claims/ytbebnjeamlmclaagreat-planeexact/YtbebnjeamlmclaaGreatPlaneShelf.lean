/- The library's contracts that package plane's calls lean on, laid at this program's numbers. -/
import Derived.Test.YtbebnjeamlmclaaGreatPlaneKit
import Derived.Shelf.SlSorted.Search
import Derived.Shelf.Small.Wraps
import Derived.Shelf.Slices.Clone
import Derived.Shelf.SlSortCmp.Insertion1
import Derived.Shelf.Small.Bits
namespace Go.Proofs.YtbebnjeamlmclaaGreat
open Go.RowKit Go.Shelf
set_option maxRecDepth 100000

def searchRen : Ren := ⟨fun | 16 => 75 | n => n, fun | 3 => 3 | 4 => 4 | 35 => 58 | 38 => 120 | n => n, fun | n => n⟩
theorem searchL : SlLaysO.n16 Tryz.prog searchRen := {
  mixed := by kernel_rfl
  f16 := Tryz.func75.trans (congrArg some (by kernel_rfl))
  t3 := Tryz.underlying3
  a3 := Tryz.isAgg3
  z3 := Tryz.sizeOf3
  v3 := Tryz.zeroValue3
  t4 := Tryz.underlying4
  a4 := Tryz.isAgg4
  z4 := Tryz.sizeOf4
  v4 := Tryz.zeroValue4
  t35 := Tryz.underlying58
  a35 := Tryz.isAgg58
  z35 := Tryz.sizeOf58
  v35 := Tryz.zeroValue58
  t38 := Tryz.underlying120
  a38 := Tryz.isAgg120
  z38 := Tryz.sizeOf120
  v38 := Tryz.zeroValue120 }

def compareRen : Ren := ⟨fun | 122 => 37 | 215 => 73 | n => n, fun | 3 => 3 | 4 => 4 | n => n, fun | n => n⟩
theorem compareL : Lays.n122 Tryz.prog compareRen := {
  mixed := by kernel_rfl
  f122 := Tryz.func37.trans (congrArg some (by kernel_rfl))
  f215 := Tryz.func73.trans (congrArg some (by kernel_rfl))
  t3 := Tryz.underlying3
  a3 := Tryz.isAgg3
  z3 := Tryz.sizeOf3
  v3 := Tryz.zeroValue3
  t4 := Tryz.underlying4
  a4 := Tryz.isAgg4
  z4 := Tryz.sizeOf4
  v4 := Tryz.zeroValue4 }

def cloneRen : Ren := ⟨fun | 15 => 14 | n => n, fun | 3 => 3 | 4 => 4 | 22 => 31 | n => n, fun | n => n⟩
theorem cloneL : Lays2.n15 Tryz.prog cloneRen := {
  mixed := by kernel_rfl
  f15 := Tryz.func14.trans (congrArg some (by kernel_rfl))
  t3 := Tryz.underlying3
  a3 := Tryz.isAgg3
  z3 := Tryz.sizeOf3
  v3 := Tryz.zeroValue3
  t4 := Tryz.underlying4
  a4 := Tryz.isAgg4
  z4 := Tryz.sizeOf4
  v4 := Tryz.zeroValue4
  t22 := Tryz.underlying31
  a22 := Tryz.isAgg31
  z22 := Tryz.sizeOf31
  v22 := Tryz.zeroValue31
  i3 := by kernel_rfl }

def insRen : Ren := ⟨fun | 20 => 89 | n => n, fun | 0 => 0 | 3 => 3 | 4 => 4 | 22 => 31 | 24 => 3 | 25 => 39 | n => n, fun | n => n⟩
theorem insL : SlLaysF.n20 Tryz.prog insRen := {
  mixed := by kernel_rfl
  f20 := ⟨"slices.insertionSortCmpFunc[int]", rfl, Tryz.func89.trans (congrArg some (by kernel_rfl))⟩
  t0 := Tryz.underlying0
  a0 := Tryz.isAgg0
  z0 := Tryz.sizeOf0
  v0 := Tryz.zeroValue0
  t3 := Tryz.underlying3
  a3 := Tryz.isAgg3
  z3 := Tryz.sizeOf3
  v3 := Tryz.zeroValue3
  t4 := Tryz.underlying4
  a4 := Tryz.isAgg4
  z4 := Tryz.sizeOf4
  v4 := Tryz.zeroValue4
  t22 := Tryz.underlying31
  a22 := Tryz.isAgg31
  z22 := Tryz.sizeOf31
  v22 := Tryz.zeroValue31
  a24 := Tryz.isAgg3
  z24 := Tryz.sizeOf3
  t25 := Tryz.underlying39
  a25 := Tryz.isAgg39
  z25 := Tryz.sizeOf39
  v25 := Tryz.zeroValue39 }
end Go.Proofs.YtbebnjeamlmclaaGreat
