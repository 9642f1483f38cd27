/-
  The bodies of the library functions that sort, and that strike what stands twice, at our numbers: their contracts are proved once for every program.
-/
import Derived.Shelf.SortG.Plain
import Derived.Shelf.SortG.SortNone
import Derived.Shelf.SlicesG.CompactI
import Derived.Test.YtcpmfkmohfmaaabProg
namespace Go.Proofs
open Go.Shelf
def Try.laysSortI_ren : Go.Shelf.Ren := ⟨fun | 53 => 32 | 64 => 39 | 63 => 38 | 78 => 49 | 79 => 50 | 70 => 40 | 71 => 41 | 72 => 42 | 73 => 43 | 74 => 44 | 75 => 45 | 59 => 46 | 76 => 47 | 77 => 48 | 88 => 51 | 89 => 52 | 90 => 53 | 91 => 54 | 92 => 55 | 68 => 36 | 96 => 56 | n => n, fun | 22 => 23 | 23 => 2 | 3 => 3 | 51 => 57 | 0 => 0 | 67 => 70 | 69 => 72 | 4 => 4 | 61 => 63 | 60 => 62 | 44 => 50 | 5 => 5 | 9 => 9 | 75 => 73 | 79 => 77 | 83 => 79 | 84 => 80 | n => n, fun | n => n⟩
theorem Try.laysSortI : Go.Proofs.SlLaysN.n53 Try.prog Try.laysSortI_ren := {
  mixed := by kernel_rfl
  f53 := ⟨Try.f32.name, by decide, Try.func32.trans (congrArg some (by kernel_rfl))⟩
  f59 := ⟨Try.f46.name, by decide, Try.func46.trans (congrArg some (by kernel_rfl))⟩
  f63 := ⟨Try.f38.name, by decide, Try.func38.trans (congrArg some (by kernel_rfl))⟩
  f64 := Try.func39.trans (congrArg some (by kernel_rfl))
  f68 := ⟨Try.f36.name, by decide, Try.func36.trans (congrArg some (by kernel_rfl))⟩
  f70 := ⟨Try.f40.name, by decide, Try.func40.trans (congrArg some (by kernel_rfl))⟩
  f71 := ⟨Try.f41.name, by decide, Try.func41.trans (congrArg some (by kernel_rfl))⟩
  f72 := ⟨Try.f42.name, by decide, Try.func42.trans (congrArg some (by kernel_rfl))⟩
  f73 := ⟨Try.f43.name, by decide, Try.func43.trans (congrArg some (by kernel_rfl))⟩
  f74 := ⟨Try.f44.name, by decide, Try.func44.trans (congrArg some (by kernel_rfl))⟩
  f75 := ⟨Try.f45.name, by decide, Try.func45.trans (congrArg some (by kernel_rfl))⟩
  f76 := ⟨Try.f47.name, by decide, Try.func47.trans (congrArg some (by kernel_rfl))⟩
  f77 := ⟨Try.f48.name, by decide, Try.func48.trans (congrArg some (by kernel_rfl))⟩
  f78 := Try.func49.trans (congrArg some (by kernel_rfl))
  f79 := Try.func50.trans (congrArg some (by kernel_rfl))
  f88 := ⟨Try.f51.name, by decide, Try.func51.trans (congrArg some (by kernel_rfl))⟩
  f89 := Try.func52.trans (congrArg some (by kernel_rfl))
  f90 := Try.func53.trans (congrArg some (by kernel_rfl))
  f91 := ⟨Try.f54.name, by decide, Try.func54.trans (congrArg some (by kernel_rfl))⟩
  f92 := ⟨Try.f55.name, by decide, Try.func55.trans (congrArg some (by kernel_rfl))⟩
  f96 := ⟨Try.f56.name, by decide, Try.func56.trans (congrArg some (by kernel_rfl))⟩
  t0 := Try.underlying0
  a0 := Try.isAgg0
  z0 := Try.sizeOf0
  v0 := Try.zeroValue0
  t3 := Try.underlying3
  a3 := Try.isAgg3
  z3 := Try.sizeOf3
  v3 := Try.zeroValue3
  t4 := Try.underlying4
  a4 := Try.isAgg4
  z4 := Try.sizeOf4
  v4 := Try.zeroValue4
  t5 := Try.underlying5
  a5 := Try.isAgg5
  z5 := Try.sizeOf5
  v5 := Try.zeroValue5
  t9 := Try.underlying9
  a9 := Try.isAgg9
  z9 := Try.sizeOf9
  v9 := Try.zeroValue9
  t22 := Try.underlying23
  a22 := Try.isAgg23
  z22 := Try.sizeOf23
  v22 := Try.zeroValue23
  t23 := Try.underlying2
  a23 := Try.isAgg2
  z23 := Try.sizeOf2
  v23 := Try.zeroValue2
  t44 := Try.underlying50
  a44 := Try.isAgg50
  z44 := Try.sizeOf50
  v44 := Try.zeroValue50
  t51 := Try.underlying57
  a51 := Try.isAgg57
  z51 := Try.sizeOf57
  v51 := Try.zeroValue57
  t60 := Try.underlying62
  a60 := Try.isAgg62
  z60 := Try.sizeOf62
  v60 := Try.zeroValue62
  t61 := Try.underlying63
  a61 := Try.isAgg63
  z61 := Try.sizeOf63
  v61 := Try.zeroValue63
  t67 := Try.underlying70
  a67 := Try.isAgg70
  z67 := Try.sizeOf70
  v67 := Try.zeroValue70
  t69 := Try.underlying72
  a69 := Try.isAgg72
  z69 := Try.sizeOf72
  v69 := Try.zeroValue72
  t75 := Try.underlying73
  a75 := Try.isAgg73
  z75 := Try.sizeOf73
  v75 := Try.zeroValue73
  t79 := Try.underlying77
  a79 := Try.isAgg77
  z79 := Try.sizeOf77
  v79 := Try.zeroValue77
  t83 := Try.underlying79
  a83 := Try.isAgg79
  z83 := Try.sizeOf79
  v83 := Try.zeroValue79
  t84 := Try.underlying80
  a84 := Try.isAgg80
  z84 := Try.sizeOf80
  v84 := Try.zeroValue80 }
def Try.laysCompactI_ren : Go.Shelf.Ren := ⟨fun | 43 => 33 | n => n, fun | 22 => 23 | 23 => 2 | 3 => 3 | 4 => 4 | 0 => 0 | n => n, fun | n => n⟩
theorem Try.laysCompactI : Go.Proofs.SlLaysN.n43 Try.prog Try.laysCompactI_ren := {
  mixed := by kernel_rfl
  f43 := ⟨Try.f33.name, by decide, Try.func33.trans (congrArg some (by kernel_rfl))⟩
  t0 := Try.underlying0
  a0 := Try.isAgg0
  z0 := Try.sizeOf0
  v0 := Try.zeroValue0
  t3 := Try.underlying3
  a3 := Try.isAgg3
  z3 := Try.sizeOf3
  v3 := Try.zeroValue3
  t4 := Try.underlying4
  a4 := Try.isAgg4
  z4 := Try.sizeOf4
  v4 := Try.zeroValue4
  t22 := Try.underlying23
  a22 := Try.isAgg23
  z22 := Try.sizeOf23
  v22 := Try.zeroValue23
  t23 := Try.underlying2
  a23 := Try.isAgg2
  z23 := Try.sizeOf2
  v23 := Try.zeroValue2
  i23 := by kernel_rfl }
end Go.Proofs
