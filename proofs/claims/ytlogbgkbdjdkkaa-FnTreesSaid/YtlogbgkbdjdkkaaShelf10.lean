/-
  slices.Sort at int64, laid at this translation by the guide's shelf (one application of a theorem of the library).
-/
import Derived.Shelf.SortG.Plain
import Derived.Shelf.SortG.SortNone
import Derived.Test.YtlogbgkbdjdkkaaProg
namespace Go.Proofs
open Go.Shelf
def Try.sortI_ren : Go.Shelf.Ren := ⟨fun | 53 => 67 | 64 => 70 | 63 => 69 | 78 => 80 | 79 => 81 | 70 => 71 | 71 => 72 | 72 => 73 | 73 => 74 | 74 => 75 | 75 => 76 | 59 => 77 | 76 => 78 | 77 => 79 | 88 => 82 | 89 => 83 | 90 => 84 | 91 => 85 | 92 => 86 | 68 => 87 | 96 => 88 | n => n, fun | 22 => 24 | 23 => 2 | 3 => 3 | 51 => 61 | 0 => 0 | 67 => 72 | 69 => 74 | 4 => 4 | 61 => 64 | 60 => 63 | 44 => 69 | 5 => 5 | 9 => 9 | 75 => 75 | 79 => 79 | 83 => 82 | 84 => 83 | n => n, fun | n => n⟩
theorem Try.sortI : Go.Proofs.SlLaysN.n53 Try.prog Try.sortI_ren := {
  mixed := by kernel_rfl
  f53 := ⟨Try.f67.name, by decide, Try.func67.trans (congrArg some (by kernel_rfl))⟩
  f59 := ⟨Try.f77.name, by decide, Try.func77.trans (congrArg some (by kernel_rfl))⟩
  f63 := ⟨Try.f69.name, by decide, Try.func69.trans (congrArg some (by kernel_rfl))⟩
  f64 := Try.func70.trans (congrArg some (by kernel_rfl))
  f68 := ⟨Try.f87.name, by decide, Try.func87.trans (congrArg some (by kernel_rfl))⟩
  f70 := ⟨Try.f71.name, by decide, Try.func71.trans (congrArg some (by kernel_rfl))⟩
  f71 := ⟨Try.f72.name, by decide, Try.func72.trans (congrArg some (by kernel_rfl))⟩
  f72 := ⟨Try.f73.name, by decide, Try.func73.trans (congrArg some (by kernel_rfl))⟩
  f73 := ⟨Try.f74.name, by decide, Try.func74.trans (congrArg some (by kernel_rfl))⟩
  f74 := ⟨Try.f75.name, by decide, Try.func75.trans (congrArg some (by kernel_rfl))⟩
  f75 := ⟨Try.f76.name, by decide, Try.func76.trans (congrArg some (by kernel_rfl))⟩
  f76 := ⟨Try.f78.name, by decide, Try.func78.trans (congrArg some (by kernel_rfl))⟩
  f77 := ⟨Try.f79.name, by decide, Try.func79.trans (congrArg some (by kernel_rfl))⟩
  f78 := Try.func80.trans (congrArg some (by kernel_rfl))
  f79 := Try.func81.trans (congrArg some (by kernel_rfl))
  f88 := ⟨Try.f82.name, by decide, Try.func82.trans (congrArg some (by kernel_rfl))⟩
  f89 := Try.func83.trans (congrArg some (by kernel_rfl))
  f90 := Try.func84.trans (congrArg some (by kernel_rfl))
  f91 := ⟨Try.f85.name, by decide, Try.func85.trans (congrArg some (by kernel_rfl))⟩
  f92 := ⟨Try.f86.name, by decide, Try.func86.trans (congrArg some (by kernel_rfl))⟩
  f96 := ⟨Try.f88.name, by decide, Try.func88.trans (congrArg some (by kernel_rfl))⟩
  t0 := Try.underlying0
  a0 := Try.isAgg0
  z0 := Try.sizeOf0
  v0 := Try.zeroValue0
  t3 := Try.underlying3
  a3 := Try.isAgg3
  z3 := Try.sizeOf3
  v3 := Try.zeroValue3
  t4 := Try.underlying4
  a4 := Try.isAgg4
  z4 := Try.sizeOf4
  v4 := Try.zeroValue4
  t5 := Try.underlying5
  a5 := Try.isAgg5
  z5 := Try.sizeOf5
  v5 := Try.zeroValue5
  t9 := Try.underlying9
  a9 := Try.isAgg9
  z9 := Try.sizeOf9
  v9 := Try.zeroValue9
  t22 := Try.underlying24
  a22 := Try.isAgg24
  z22 := Try.sizeOf24
  v22 := Try.zeroValue24
  t23 := Try.underlying2
  a23 := Try.isAgg2
  z23 := Try.sizeOf2
  v23 := Try.zeroValue2
  t44 := Try.underlying69
  a44 := Try.isAgg69
  z44 := Try.sizeOf69
  v44 := Try.zeroValue69
  t51 := Try.underlying61
  a51 := Try.isAgg61
  z51 := Try.sizeOf61
  v51 := Try.zeroValue61
  t60 := Try.underlying63
  a60 := Try.isAgg63
  z60 := Try.sizeOf63
  v60 := Try.zeroValue63
  t61 := Try.underlying64
  a61 := Try.isAgg64
  z61 := Try.sizeOf64
  v61 := Try.zeroValue64
  t67 := Try.underlying72
  a67 := Try.isAgg72
  z67 := Try.sizeOf72
  v67 := Try.zeroValue72
  t69 := Try.underlying74
  a69 := Try.isAgg74
  z69 := Try.sizeOf74
  v69 := Try.zeroValue74
  t75 := Try.underlying75
  a75 := Try.isAgg75
  z75 := Try.sizeOf75
  v75 := Try.zeroValue75
  t79 := Try.underlying79
  a79 := Try.isAgg79
  z79 := Try.sizeOf79
  v79 := Try.zeroValue79
  t83 := Try.underlying82
  a83 := Try.isAgg82
  z83 := Try.sizeOf82
  v83 := Try.zeroValue82
  t84 := Try.underlying83
  a84 := Try.isAgg83
  z84 := Try.sizeOf83
  v84 := Try.zeroValue83 }
end Go.Proofs
