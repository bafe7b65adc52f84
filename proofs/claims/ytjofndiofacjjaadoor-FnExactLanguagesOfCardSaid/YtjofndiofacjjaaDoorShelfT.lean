/-
  The library contracts that the walks use, laid at this translation by the guide's shelf (each is one application of a theorem of the library).
-/
import Derived.Shelf.SlicesG.Turned
import Derived.Shelf.SlicesG.CompactS
import Derived.Shelf.SortG.SortNone
import Derived.Test.YtjofndiofacjjaaDoorProg
namespace Go.Proofs
open Go.Shelf
def Tryd.laysSlN44_f65_ren : Go.Shelf.Ren := ⟨fun | 44 => 71 | n => n, fun | 25 => 50 | 26 => 9 | 3 => 3 | 4 => 4 | 0 => 0 | n => n, fun | n => n⟩
theorem Tryd.laysSlN44_f65 : Go.Proofs.SlLaysN.n44 Tryd.prog Tryd.laysSlN44_f65_ren := {
  mixed := by kernel_rfl
  f44 := ⟨Tryd.f71.name, by decide, Tryd.func71.trans (congrArg some (by kernel_rfl))⟩
  t0 := Tryd.underlying0
  a0 := Tryd.isAgg0
  z0 := Tryd.sizeOf0
  v0 := Tryd.zeroValue0
  t3 := Tryd.underlying3
  a3 := Tryd.isAgg3
  z3 := Tryd.sizeOf3
  v3 := Tryd.zeroValue3
  t4 := Tryd.underlying4
  a4 := Tryd.isAgg4
  z4 := Tryd.sizeOf4
  v4 := Tryd.zeroValue4
  t25 := Tryd.underlying50
  a25 := Tryd.isAgg50
  z25 := Tryd.sizeOf50
  v25 := Tryd.zeroValue50
  t26 := Tryd.underlying9
  a26 := Tryd.isAgg9
  z26 := Tryd.sizeOf9
  v26 := Tryd.zeroValue9
  i26 := by kernel_rfl }
open Go.RowKit Go.Lib Go.Sort in
theorem Tryd.slices_Compact_string (blk off cap : Nat) (zs : List (List UInt8)) (w : World) (hH : Holds encStr w blk off zs.toArray) (hsz : zs.length ≤ 9223372036854775807) (hcap : zs.length ≤ cap) :
    Calls Tryd.prog 71 #[.slice (some ⟨blk, off, none⟩) zs.length cap] w fun e w' => e = .returned (.slice (some ⟨blk, off, none⟩) (Lib.compact zs).length cap) ∧ ∃ q, w' = putRow encStr (Sort.ahead w q) blk off (Lib.compact zs ++ List.replicate (zs.length - (Lib.compact zs).length) []).toArray := AnyG.slices_Compact_string Tryd.laysSlN44_f65 blk off cap zs w hH hsz hcap
open Go.RowKit Go.Lib Go.Sort in
theorem Tryd.slices_Compact_string_empty (a : Option Addr) (cap : Nat) (w : World) :
    Calls Tryd.prog 71 #[.slice a 0 cap] w fun e w' => e = .returned (.slice a 0 cap) ∧ w' = w := AnyG.slices_Compact_string_empty Tryd.laysSlN44_f65 a cap w
def Tryd.sortT_ren : Go.Shelf.Ren := ⟨fun | 54 => 70 | 64 => 96 | 65 => 95 | 78 => 129 | 79 => 130 | 80 => 120 | 81 => 121 | 82 => 122 | 83 => 123 | 84 => 124 | 85 => 125 | 61 => 126 | 86 => 127 | 87 => 128 | 93 => 145 | 89 => 146 | 90 => 147 | 94 => 148 | 95 => 149 | 69 => 150 | 97 => 168 | n => n, fun | 25 => 50 | 26 => 9 | 3 => 3 | 51 => 117 | 0 => 0 | 67 => 157 | 69 => 159 | 4 => 4 | 61 => 150 | 60 => 149 | 44 => 111 | 5 => 5 | 9 => 9 | 75 => 180 | 79 => 184 | 83 => 200 | 84 => 201 | n => n, fun | n => n⟩
theorem Tryd.sortT : Go.Proofs.SlLaysN.n54 Tryd.prog Tryd.sortT_ren := {
  mixed := by kernel_rfl
  f54 := ⟨Tryd.f70.name, by decide, Tryd.func70.trans (congrArg some (by kernel_rfl))⟩
  f61 := ⟨Tryd.f126.name, by decide, Tryd.func126.trans (congrArg some (by kernel_rfl))⟩
  f64 := Tryd.func96.trans (congrArg some (by kernel_rfl))
  f65 := ⟨Tryd.f95.name, by decide, Tryd.func95.trans (congrArg some (by kernel_rfl))⟩
  f69 := ⟨Tryd.f150.name, by decide, Tryd.func150.trans (congrArg some (by kernel_rfl))⟩
  f78 := Tryd.func129.trans (congrArg some (by kernel_rfl))
  f79 := Tryd.func130.trans (congrArg some (by kernel_rfl))
  f80 := ⟨Tryd.f120.name, by decide, Tryd.func120.trans (congrArg some (by kernel_rfl))⟩
  f81 := ⟨Tryd.f121.name, by decide, Tryd.func121.trans (congrArg some (by kernel_rfl))⟩
  f82 := ⟨Tryd.f122.name, by decide, Tryd.func122.trans (congrArg some (by kernel_rfl))⟩
  f83 := ⟨Tryd.f123.name, by decide, Tryd.func123.trans (congrArg some (by kernel_rfl))⟩
  f84 := ⟨Tryd.f124.name, by decide, Tryd.func124.trans (congrArg some (by kernel_rfl))⟩
  f85 := ⟨Tryd.f125.name, by decide, Tryd.func125.trans (congrArg some (by kernel_rfl))⟩
  f86 := ⟨Tryd.f127.name, by decide, Tryd.func127.trans (congrArg some (by kernel_rfl))⟩
  f87 := ⟨Tryd.f128.name, by decide, Tryd.func128.trans (congrArg some (by kernel_rfl))⟩
  f89 := Tryd.func146.trans (congrArg some (by kernel_rfl))
  f90 := Tryd.func147.trans (congrArg some (by kernel_rfl))
  f93 := ⟨Tryd.f145.name, by decide, Tryd.func145.trans (congrArg some (by kernel_rfl))⟩
  f94 := ⟨Tryd.f148.name, by decide, Tryd.func148.trans (congrArg some (by kernel_rfl))⟩
  f95 := ⟨Tryd.f149.name, by decide, Tryd.func149.trans (congrArg some (by kernel_rfl))⟩
  f97 := ⟨Tryd.f168.name, by decide, Tryd.func168.trans (congrArg some (by kernel_rfl))⟩
  t0 := Tryd.underlying0
  a0 := Tryd.isAgg0
  z0 := Tryd.sizeOf0
  v0 := Tryd.zeroValue0
  t3 := Tryd.underlying3
  a3 := Tryd.isAgg3
  z3 := Tryd.sizeOf3
  v3 := Tryd.zeroValue3
  t4 := Tryd.underlying4
  a4 := Tryd.isAgg4
  z4 := Tryd.sizeOf4
  v4 := Tryd.zeroValue4
  t5 := Tryd.underlying5
  a5 := Tryd.isAgg5
  z5 := Tryd.sizeOf5
  v5 := Tryd.zeroValue5
  t9 := Tryd.underlying9
  a9 := Tryd.isAgg9
  z9 := Tryd.sizeOf9
  v9 := Tryd.zeroValue9
  t25 := Tryd.underlying50
  a25 := Tryd.isAgg50
  z25 := Tryd.sizeOf50
  v25 := Tryd.zeroValue50
  t26 := Tryd.underlying9
  a26 := Tryd.isAgg9
  z26 := Tryd.sizeOf9
  v26 := Tryd.zeroValue9
  t44 := Tryd.underlying111
  a44 := Tryd.isAgg111
  z44 := Tryd.sizeOf111
  v44 := Tryd.zeroValue111
  t51 := Tryd.underlying117
  a51 := Tryd.isAgg117
  z51 := Tryd.sizeOf117
  v51 := Tryd.zeroValue117
  t60 := Tryd.underlying149
  a60 := Tryd.isAgg149
  z60 := Tryd.sizeOf149
  v60 := Tryd.zeroValue149
  t61 := Tryd.underlying150
  a61 := Tryd.isAgg150
  z61 := Tryd.sizeOf150
  v61 := Tryd.zeroValue150
  t67 := Tryd.underlying157
  a67 := Tryd.isAgg157
  z67 := Tryd.sizeOf157
  v67 := Tryd.zeroValue157
  t69 := Tryd.underlying159
  a69 := Tryd.isAgg159
  z69 := Tryd.sizeOf159
  v69 := Tryd.zeroValue159
  t75 := Tryd.underlying180
  a75 := Tryd.isAgg180
  z75 := Tryd.sizeOf180
  v75 := Tryd.zeroValue180
  t79 := Tryd.underlying184
  a79 := Tryd.isAgg184
  z79 := Tryd.sizeOf184
  v79 := Tryd.zeroValue184
  t83 := Tryd.underlying200
  a83 := Tryd.isAgg200
  z83 := Tryd.sizeOf200
  v83 := Tryd.zeroValue200
  t84 := Tryd.underlying201
  a84 := Tryd.isAgg201
  z84 := Tryd.sizeOf201
  v84 := Tryd.zeroValue201 }


end Go.Proofs
