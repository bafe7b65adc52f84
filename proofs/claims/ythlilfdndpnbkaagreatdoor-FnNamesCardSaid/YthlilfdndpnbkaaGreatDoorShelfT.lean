/-
  The library contracts that the walks use, laid at this translation by the guide's shelf (each is one application of a theorem of the library).
-/
import Derived.Shelf.SlicesG.Turned
import Derived.Shelf.SlicesG.CompactS
import Derived.Shelf.SortG.SortNone
import Derived.Test.YthlilfdndpnbkaaGreatDoorProg
namespace Go.Proofs
open Go.Shelf
def Tryz.laysSlN44_f65_ren : Go.Shelf.Ren := ⟨fun | 44 => 73 | n => n, fun | 25 => 48 | 26 => 9 | 3 => 3 | 4 => 4 | 0 => 0 | n => n, fun | n => n⟩
theorem Tryz.laysSlN44_f65 : Go.Proofs.SlLaysN.n44 Tryz.prog Tryz.laysSlN44_f65_ren := {
  mixed := by kernel_rfl
  f44 := ⟨Tryz.f73.name, by decide, Tryz.func73.trans (congrArg some (by kernel_rfl))⟩
  t0 := Tryz.underlying0
  a0 := Tryz.isAgg0
  z0 := Tryz.sizeOf0
  v0 := Tryz.zeroValue0
  t3 := Tryz.underlying3
  a3 := Tryz.isAgg3
  z3 := Tryz.sizeOf3
  v3 := Tryz.zeroValue3
  t4 := Tryz.underlying4
  a4 := Tryz.isAgg4
  z4 := Tryz.sizeOf4
  v4 := Tryz.zeroValue4
  t25 := Tryz.underlying48
  a25 := Tryz.isAgg48
  z25 := Tryz.sizeOf48
  v25 := Tryz.zeroValue48
  t26 := Tryz.underlying9
  a26 := Tryz.isAgg9
  z26 := Tryz.sizeOf9
  v26 := Tryz.zeroValue9
  i26 := by kernel_rfl }
open Go.RowKit Go.Lib Go.Sort in
theorem Tryz.slices_Compact_string (blk off cap : Nat) (zs : List (List UInt8)) (w : World) (hH : Holds encStr w blk off zs.toArray) (hsz : zs.length ≤ 9223372036854775807) (hcap : zs.length ≤ cap) :
    Calls Tryz.prog 73 #[.slice (some ⟨blk, off, none⟩) zs.length cap] w fun e w' => e = .returned (.slice (some ⟨blk, off, none⟩) (Lib.compact zs).length cap) ∧ ∃ q, w' = putRow encStr (Sort.ahead w q) blk off (Lib.compact zs ++ List.replicate (zs.length - (Lib.compact zs).length) []).toArray := AnyG.slices_Compact_string Tryz.laysSlN44_f65 blk off cap zs w hH hsz hcap
open Go.RowKit Go.Lib Go.Sort in
theorem Tryz.slices_Compact_string_empty (a : Option Addr) (cap : Nat) (w : World) :
    Calls Tryz.prog 73 #[.slice a 0 cap] w fun e w' => e = .returned (.slice a 0 cap) ∧ w' = w := AnyG.slices_Compact_string_empty Tryz.laysSlN44_f65 a cap w
def Tryz.sortT_ren : Go.Shelf.Ren := ⟨fun | 54 => 72 | 64 => 111 | 65 => 110 | 78 => 150 | 79 => 151 | 80 => 141 | 81 => 142 | 82 => 143 | 83 => 144 | 84 => 145 | 85 => 146 | 61 => 147 | 86 => 148 | 87 => 149 | 93 => 171 | 89 => 172 | 90 => 173 | 94 => 174 | 95 => 175 | 69 => 176 | 97 => 196 | n => n, fun | 25 => 48 | 26 => 9 | 3 => 3 | 51 => 116 | 0 => 0 | 67 => 191 | 69 => 68 | 4 => 4 | 61 => 184 | 60 => 183 | 44 => 143 | 5 => 5 | 9 => 9 | 75 => 217 | 79 => 221 | 83 => 238 | 84 => 239 | n => n, fun | n => n⟩
theorem Tryz.sortT : Go.Proofs.SlLaysN.n54 Tryz.prog Tryz.sortT_ren := {
  mixed := by kernel_rfl
  f54 := ⟨Tryz.f72.name, by decide, Tryz.func72.trans (congrArg some (by kernel_rfl))⟩
  f61 := ⟨Tryz.f147.name, by decide, Tryz.func147.trans (congrArg some (by kernel_rfl))⟩
  f64 := Tryz.func111.trans (congrArg some (by kernel_rfl))
  f65 := ⟨Tryz.f110.name, by decide, Tryz.func110.trans (congrArg some (by kernel_rfl))⟩
  f69 := ⟨Tryz.f176.name, by decide, Tryz.func176.trans (congrArg some (by kernel_rfl))⟩
  f78 := Tryz.func150.trans (congrArg some (by kernel_rfl))
  f79 := Tryz.func151.trans (congrArg some (by kernel_rfl))
  f80 := ⟨Tryz.f141.name, by decide, Tryz.func141.trans (congrArg some (by kernel_rfl))⟩
  f81 := ⟨Tryz.f142.name, by decide, Tryz.func142.trans (congrArg some (by kernel_rfl))⟩
  f82 := ⟨Tryz.f143.name, by decide, Tryz.func143.trans (congrArg some (by kernel_rfl))⟩
  f83 := ⟨Tryz.f144.name, by decide, Tryz.func144.trans (congrArg some (by kernel_rfl))⟩
  f84 := ⟨Tryz.f145.name, by decide, Tryz.func145.trans (congrArg some (by kernel_rfl))⟩
  f85 := ⟨Tryz.f146.name, by decide, Tryz.func146.trans (congrArg some (by kernel_rfl))⟩
  f86 := ⟨Tryz.f148.name, by decide, Tryz.func148.trans (congrArg some (by kernel_rfl))⟩
  f87 := ⟨Tryz.f149.name, by decide, Tryz.func149.trans (congrArg some (by kernel_rfl))⟩
  f89 := Tryz.func172.trans (congrArg some (by kernel_rfl))
  f90 := Tryz.func173.trans (congrArg some (by kernel_rfl))
  f93 := ⟨Tryz.f171.name, by decide, Tryz.func171.trans (congrArg some (by kernel_rfl))⟩
  f94 := ⟨Tryz.f174.name, by decide, Tryz.func174.trans (congrArg some (by kernel_rfl))⟩
  f95 := ⟨Tryz.f175.name, by decide, Tryz.func175.trans (congrArg some (by kernel_rfl))⟩
  f97 := ⟨Tryz.f196.name, by decide, Tryz.func196.trans (congrArg some (by kernel_rfl))⟩
  t0 := Tryz.underlying0
  a0 := Tryz.isAgg0
  z0 := Tryz.sizeOf0
  v0 := Tryz.zeroValue0
  t3 := Tryz.underlying3
  a3 := Tryz.isAgg3
  z3 := Tryz.sizeOf3
  v3 := Tryz.zeroValue3
  t4 := Tryz.underlying4
  a4 := Tryz.isAgg4
  z4 := Tryz.sizeOf4
  v4 := Tryz.zeroValue4
  t5 := Tryz.underlying5
  a5 := Tryz.isAgg5
  z5 := Tryz.sizeOf5
  v5 := Tryz.zeroValue5
  t9 := Tryz.underlying9
  a9 := Tryz.isAgg9
  z9 := Tryz.sizeOf9
  v9 := Tryz.zeroValue9
  t25 := Tryz.underlying48
  a25 := Tryz.isAgg48
  z25 := Tryz.sizeOf48
  v25 := Tryz.zeroValue48
  t26 := Tryz.underlying9
  a26 := Tryz.isAgg9
  z26 := Tryz.sizeOf9
  v26 := Tryz.zeroValue9
  t44 := Tryz.underlying143
  a44 := Tryz.isAgg143
  z44 := Tryz.sizeOf143
  v44 := Tryz.zeroValue143
  t51 := Tryz.underlying116
  a51 := Tryz.isAgg116
  z51 := Tryz.sizeOf116
  v51 := Tryz.zeroValue116
  t60 := Tryz.underlying183
  a60 := Tryz.isAgg183
  z60 := Tryz.sizeOf183
  v60 := Tryz.zeroValue183
  t61 := Tryz.underlying184
  a61 := Tryz.isAgg184
  z61 := Tryz.sizeOf184
  v61 := Tryz.zeroValue184
  t67 := Tryz.underlying191
  a67 := Tryz.isAgg191
  z67 := Tryz.sizeOf191
  v67 := Tryz.zeroValue191
  t69 := Tryz.underlying68
  a69 := Tryz.isAgg68
  z69 := Tryz.sizeOf68
  v69 := Tryz.zeroValue68
  t75 := Tryz.underlying217
  a75 := Tryz.isAgg217
  z75 := Tryz.sizeOf217
  v75 := Tryz.zeroValue217
  t79 := Tryz.underlying221
  a79 := Tryz.isAgg221
  z79 := Tryz.sizeOf221
  v79 := Tryz.zeroValue221
  t83 := Tryz.underlying238
  a83 := Tryz.isAgg238
  z83 := Tryz.sizeOf238
  v83 := Tryz.zeroValue238
  t84 := Tryz.underlying239
  a84 := Tryz.isAgg239
  z84 := Tryz.sizeOf239
  v84 := Tryz.zeroValue239 }


end Go.Proofs
