/-
  The shelf's contracts laid at this program, in plain words: that the library's functions stand in it as the shelf has them. No condition.
-/
import Derived.Test.YtbippnldofalbaaDoorRows
import Derived.Shelf.SlSortCmp.Whole1
import Derived.Shelf.SlicesE.Compact
namespace Go.Proofs.YtbippnldofalbaaDoor
open Go.Shelf
def sortL_ren : Ren := ⟨fun | 6 => 51 | 15 => 64 | 14 => 63 | 28 => 77 | 29 => 78 | 20 => 69 | 21 => 70 | 22 => 71 | 23 => 72 | 24 => 73 | 25 => 74 | 26 => 75 | 27 => 76 | 46 => 80 | 47 => 81 | 48 => 82 | 49 => 83 | 50 => 84 | 57 => 85 | n => n, fun | 22 => 22 | 24 => 32 | 25 => 66 | 3 => 3 | 39 => 73 | 0 => 0 | 53 => 85 | 55 => 32 | 4 => 4 | 46 => 79 | 45 => 78 | 50 => 39 | 5 => 5 | 9 => 9 | 66 => 86 | 70 => 90 | 76 => 92 | 77 => 93 | n => n, fun | n => n⟩
theorem sortL : Go.Proofs.SlLaysF.n6 Tryd.prog sortL_ren :=
  {
    mixed := by kernel_rfl
    f6 := ⟨Tryd.f51.name, by decide, Tryd.func51.trans (congrArg some (by kernel_rfl))⟩
    f14 := ⟨Tryd.f63.name, by decide, Tryd.func63.trans (congrArg some (by kernel_rfl))⟩
    f15 := Tryd.func64.trans (congrArg some (by kernel_rfl))
    f20 := ⟨Tryd.f69.name, by decide, Tryd.func69.trans (congrArg some (by kernel_rfl))⟩
    f21 := ⟨Tryd.f70.name, by decide, Tryd.func70.trans (congrArg some (by kernel_rfl))⟩
    f22 := ⟨Tryd.f71.name, by decide, Tryd.func71.trans (congrArg some (by kernel_rfl))⟩
    f23 := ⟨Tryd.f72.name, by decide, Tryd.func72.trans (congrArg some (by kernel_rfl))⟩
    f24 := ⟨Tryd.f73.name, by decide, Tryd.func73.trans (congrArg some (by kernel_rfl))⟩
    f25 := ⟨Tryd.f74.name, by decide, Tryd.func74.trans (congrArg some (by kernel_rfl))⟩
    f26 := ⟨Tryd.f75.name, by decide, Tryd.func75.trans (congrArg some (by kernel_rfl))⟩
    f27 := ⟨Tryd.f76.name, by decide, Tryd.func76.trans (congrArg some (by kernel_rfl))⟩
    f28 := Tryd.func77.trans (congrArg some (by kernel_rfl))
    f29 := Tryd.func78.trans (congrArg some (by kernel_rfl))
    f46 := ⟨Tryd.f80.name, by decide, Tryd.func80.trans (congrArg some (by kernel_rfl))⟩
    f47 := Tryd.func81.trans (congrArg some (by kernel_rfl))
    f48 := Tryd.func82.trans (congrArg some (by kernel_rfl))
    f49 := ⟨Tryd.f83.name, by decide, Tryd.func83.trans (congrArg some (by kernel_rfl))⟩
    f50 := ⟨Tryd.f84.name, by decide, Tryd.func84.trans (congrArg some (by kernel_rfl))⟩
    f57 := ⟨Tryd.f85.name, by decide, Tryd.func85.trans (congrArg some (by kernel_rfl))⟩
    t0 := Tryd.underlying0
    a0 := Tryd.isAgg0
    z0 := Tryd.sizeOf0
    v0 := Tryd.zeroValue0
    t3 := Tryd.underlying3
    a3 := Tryd.isAgg3
    z3 := Tryd.sizeOf3
    v3 := Tryd.zeroValue3
    t4 := Tryd.underlying4
    a4 := Tryd.isAgg4
    z4 := Tryd.sizeOf4
    v4 := Tryd.zeroValue4
    t5 := Tryd.underlying5
    a5 := Tryd.isAgg5
    z5 := Tryd.sizeOf5
    v5 := Tryd.zeroValue5
    t9 := Tryd.underlying9
    a9 := Tryd.isAgg9
    z9 := Tryd.sizeOf9
    v9 := Tryd.zeroValue9
    t22 := Tryd.underlying22
    a22 := Tryd.isAgg22
    z22 := Tryd.sizeOf22
    v22 := Tryd.zeroValue22
    a24 := Tryd.isAgg32
    z24 := Tryd.sizeOf32
    t25 := Tryd.underlying66
    a25 := Tryd.isAgg66
    z25 := Tryd.sizeOf66
    v25 := Tryd.zeroValue66
    t39 := Tryd.underlying73
    a39 := Tryd.isAgg73
    z39 := Tryd.sizeOf73
    v39 := Tryd.zeroValue73
    t45 := Tryd.underlying78
    a45 := Tryd.isAgg78
    z45 := Tryd.sizeOf78
    v45 := Tryd.zeroValue78
    t46 := Tryd.underlying79
    a46 := Tryd.isAgg79
    z46 := Tryd.sizeOf79
    v46 := Tryd.zeroValue79
    t50 := Tryd.underlying39
    a50 := Tryd.isAgg39
    z50 := Tryd.sizeOf39
    v50 := Tryd.zeroValue39
    t53 := Tryd.underlying85
    a53 := Tryd.isAgg85
    z53 := Tryd.sizeOf85
    v53 := Tryd.zeroValue85
    t55 := Tryd.underlying32
    a55 := Tryd.isAgg32
    z55 := Tryd.sizeOf32
    v55 := Tryd.zeroValue32
    t66 := Tryd.underlying86
    a66 := Tryd.isAgg86
    z66 := Tryd.sizeOf86
    v66 := Tryd.zeroValue86
    t70 := Tryd.underlying90
    a70 := Tryd.isAgg90
    z70 := Tryd.sizeOf90
    v70 := Tryd.zeroValue90
    t76 := Tryd.underlying92
    a76 := Tryd.isAgg92
    z76 := Tryd.sizeOf92
    v76 := Tryd.zeroValue92
    t77 := Tryd.underlying93
    a77 := Tryd.isAgg93
    z77 := Tryd.sizeOf93
    v77 := Tryd.zeroValue93 }
def compactL_ren : Ren := ⟨fun | 43 => 55 | n => n, fun | 22 => 22 | 23 => 32 | 3 => 3 | 4 => 4 | 0 => 0 | n => n, fun | n => n⟩
theorem compactL : Go.Proofs.SlLaysE.n43 Tryd.prog compactL_ren :=
  {
    mixed := by kernel_rfl
    f43 := ⟨Tryd.f55.name, by decide, Tryd.func55.trans (congrArg some (by kernel_rfl))⟩
    t0 := Tryd.underlying0
    a0 := Tryd.isAgg0
    z0 := Tryd.sizeOf0
    v0 := Tryd.zeroValue0
    t3 := Tryd.underlying3
    a3 := Tryd.isAgg3
    z3 := Tryd.sizeOf3
    v3 := Tryd.zeroValue3
    t4 := Tryd.underlying4
    a4 := Tryd.isAgg4
    z4 := Tryd.sizeOf4
    v4 := Tryd.zeroValue4
    t22 := Tryd.underlying22
    a22 := Tryd.isAgg22
    z22 := Tryd.sizeOf22
    v22 := Tryd.zeroValue22
    a23 := Tryd.isAgg32
    z23 := Tryd.sizeOf32 }
end Go.Proofs.YtbippnldofalbaaDoor
