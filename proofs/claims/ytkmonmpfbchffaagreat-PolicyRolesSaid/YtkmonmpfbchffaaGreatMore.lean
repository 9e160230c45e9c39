/- slices.BinarySearch and slices.Insert at texts laid at this program, in plain words. -/
import Derived.Shelf.Spec.SearchS
import Derived.Shelf.Spec.SlicesInsertGrow
import Derived.Ground.Names2Prog
import Derived.Test.YtkmonmpfbchffaaGreatProg
namespace Go.Proofs.YtkmonmpfbchffaaGreat.More
open Go.Shelf Go.RowKit Go.Lib Go.Proofs
def laysBin_ren : Go.Shelf.Ren := ⟨fun | 26 => 158 | 33 => 209 | 34 => 210 | 38 => 227 | n => n, fun | 24 => 24 | 9 => 9 | 3 => 3 | 4 => 4 | 40 => 144 | 0 => 0 | n => n, fun | n => n⟩
theorem laysBin : Go.Proofs.Lays2.n26 Tryz.prog laysBin_ren := {
  mixed := by kernel_rfl
  f26 := Tryz.func158.trans (congrArg some (by kernel_rfl))
  f33 := Tryz.func209.trans (congrArg some (by kernel_rfl))
  f34 := Tryz.func210.trans (congrArg some (by kernel_rfl))
  f38 := Tryz.func227.trans (congrArg some (by kernel_rfl))
  t0 := Tryz.underlying0
  a0 := Tryz.isAgg0
  z0 := Tryz.sizeOf0
  v0 := Tryz.zeroValue0
  t3 := Tryz.underlying3
  a3 := Tryz.isAgg3
  z3 := Tryz.sizeOf3
  v3 := Tryz.zeroValue3
  t4 := Tryz.underlying4
  a4 := Tryz.isAgg4
  z4 := Tryz.sizeOf4
  v4 := Tryz.zeroValue4
  t9 := Tryz.underlying9
  a9 := Tryz.isAgg9
  z9 := Tryz.sizeOf9
  v9 := Tryz.zeroValue9
  t24 := Tryz.underlying24
  a24 := Tryz.isAgg24
  z24 := Tryz.sizeOf24
  v24 := Tryz.zeroValue24
  t40 := Tryz.underlying144
  a40 := Tryz.isAgg144
  z40 := Tryz.sizeOf144
  v40 := Tryz.zeroValue144 }
def laysIns_ren : Go.Shelf.Ren := ⟨fun | 22 => 159 | 29 => 211 | 30 => 212 | 36 => 250 | 17 => 264 | n => n, fun | 24 => 24 | 9 => 9 | 3 => 3 | 4 => 4 | 0 => 0 | n => n, fun | n => n⟩
theorem laysIns : Go.Proofs.Lays2.n22 Tryz.prog laysIns_ren := {
  mixed := by kernel_rfl
  f17 := Tryz.func264.trans (congrArg some (by kernel_rfl))
  f22 := Tryz.func159.trans (congrArg some (by kernel_rfl))
  f29 := Tryz.func211.trans (congrArg some (by kernel_rfl))
  f30 := Tryz.func212.trans (congrArg some (by kernel_rfl))
  f36 := Tryz.func250.trans (congrArg some (by kernel_rfl))
  t0 := Tryz.underlying0
  a0 := Tryz.isAgg0
  z0 := Tryz.sizeOf0
  v0 := Tryz.zeroValue0
  t3 := Tryz.underlying3
  a3 := Tryz.isAgg3
  z3 := Tryz.sizeOf3
  v3 := Tryz.zeroValue3
  t4 := Tryz.underlying4
  a4 := Tryz.isAgg4
  z4 := Tryz.sizeOf4
  v4 := Tryz.zeroValue4
  t9 := Tryz.underlying9
  a9 := Tryz.isAgg9
  z9 := Tryz.sizeOf9
  v9 := Tryz.zeroValue9
  t24 := Tryz.underlying24
  a24 := Tryz.isAgg24
  z24 := Tryz.sizeOf24
  v24 := Tryz.zeroValue24
  i9 := by kernel_rfl }
end Go.Proofs.YtkmonmpfbchffaaGreat.More
