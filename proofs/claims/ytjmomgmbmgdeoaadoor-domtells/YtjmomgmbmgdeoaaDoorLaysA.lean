/-
  The shelf's contracts laid at this program, in plain words: that the library's functions stand in it as the shelf has them. No condition.
-/
import Derived.Test.YtjmomgmbmgdeoaaDoorRows
import Derived.Shelf.SlSortCmp.Whole1
namespace Go.Proofs.YtjmomgmbmgdeoaaDoor
open Go.Shelf
def sortL_ren : Ren := ⟨fun | 6 => 35 | 15 => 43 | 14 => 42 | 28 => 56 | 29 => 57 | 20 => 48 | 21 => 49 | 22 => 50 | 23 => 51 | 24 => 52 | 25 => 53 | 26 => 54 | 27 => 55 | 46 => 60 | 47 => 61 | 48 => 62 | 49 => 63 | 50 => 64 | 57 => 67 | n => n, fun | 22 => 23 | 24 => 3 | 25 => 58 | 3 => 3 | 39 => 64 | 0 => 0 | 53 => 76 | 55 => 35 | 4 => 4 | 46 => 69 | 45 => 68 | 50 => 73 | 5 => 5 | 9 => 9 | 66 => 78 | 70 => 82 | 76 => 85 | 77 => 86 | n => n, fun | n => n⟩
theorem sortL : Go.Proofs.SlLaysF.n6 Tryd.prog sortL_ren :=
  {
    mixed := by kernel_rfl
    f6 := ⟨Tryd.f35.name, by decide, Tryd.func35.trans (congrArg some (by kernel_rfl))⟩
    f14 := ⟨Tryd.f42.name, by decide, Tryd.func42.trans (congrArg some (by kernel_rfl))⟩
    f15 := Tryd.func43.trans (congrArg some (by kernel_rfl))
    f20 := ⟨Tryd.f48.name, by decide, Tryd.func48.trans (congrArg some (by kernel_rfl))⟩
    f21 := ⟨Tryd.f49.name, by decide, Tryd.func49.trans (congrArg some (by kernel_rfl))⟩
    f22 := ⟨Tryd.f50.name, by decide, Tryd.func50.trans (congrArg some (by kernel_rfl))⟩
    f23 := ⟨Tryd.f51.name, by decide, Tryd.func51.trans (congrArg some (by kernel_rfl))⟩
    f24 := ⟨Tryd.f52.name, by decide, Tryd.func52.trans (congrArg some (by kernel_rfl))⟩
    f25 := ⟨Tryd.f53.name, by decide, Tryd.func53.trans (congrArg some (by kernel_rfl))⟩
    f26 := ⟨Tryd.f54.name, by decide, Tryd.func54.trans (congrArg some (by kernel_rfl))⟩
    f27 := ⟨Tryd.f55.name, by decide, Tryd.func55.trans (congrArg some (by kernel_rfl))⟩
    f28 := Tryd.func56.trans (congrArg some (by kernel_rfl))
    f29 := Tryd.func57.trans (congrArg some (by kernel_rfl))
    f46 := ⟨Tryd.f60.name, by decide, Tryd.func60.trans (congrArg some (by kernel_rfl))⟩
    f47 := Tryd.func61.trans (congrArg some (by kernel_rfl))
    f48 := Tryd.func62.trans (congrArg some (by kernel_rfl))
    f49 := ⟨Tryd.f63.name, by decide, Tryd.func63.trans (congrArg some (by kernel_rfl))⟩
    f50 := ⟨Tryd.f64.name, by decide, Tryd.func64.trans (congrArg some (by kernel_rfl))⟩
    f57 := ⟨Tryd.f67.name, by decide, Tryd.func67.trans (congrArg some (by kernel_rfl))⟩
    t0 := Tryd.underlying0
    a0 := Tryd.isAgg0
    z0 := Tryd.sizeOf0
    v0 := Tryd.zeroValue0
    t3 := Tryd.underlying3
    a3 := Tryd.isAgg3
    z3 := Tryd.sizeOf3
    v3 := Tryd.zeroValue3
    t4 := Tryd.underlying4
    a4 := Tryd.isAgg4
    z4 := Tryd.sizeOf4
    v4 := Tryd.zeroValue4
    t5 := Tryd.underlying5
    a5 := Tryd.isAgg5
    z5 := Tryd.sizeOf5
    v5 := Tryd.zeroValue5
    t9 := Tryd.underlying9
    a9 := Tryd.isAgg9
    z9 := Tryd.sizeOf9
    v9 := Tryd.zeroValue9
    t22 := Tryd.underlying23
    a22 := Tryd.isAgg23
    z22 := Tryd.sizeOf23
    v22 := Tryd.zeroValue23
    a24 := Tryd.isAgg3
    z24 := Tryd.sizeOf3
    t25 := Tryd.underlying58
    a25 := Tryd.isAgg58
    z25 := Tryd.sizeOf58
    v25 := Tryd.zeroValue58
    t39 := Tryd.underlying64
    a39 := Tryd.isAgg64
    z39 := Tryd.sizeOf64
    v39 := Tryd.zeroValue64
    t45 := Tryd.underlying68
    a45 := Tryd.isAgg68
    z45 := Tryd.sizeOf68
    v45 := Tryd.zeroValue68
    t46 := Tryd.underlying69
    a46 := Tryd.isAgg69
    z46 := Tryd.sizeOf69
    v46 := Tryd.zeroValue69
    t50 := Tryd.underlying73
    a50 := Tryd.isAgg73
    z50 := Tryd.sizeOf73
    v50 := Tryd.zeroValue73
    t53 := Tryd.underlying76
    a53 := Tryd.isAgg76
    z53 := Tryd.sizeOf76
    v53 := Tryd.zeroValue76
    t55 := Tryd.underlying35
    a55 := Tryd.isAgg35
    z55 := Tryd.sizeOf35
    v55 := Tryd.zeroValue35
    t66 := Tryd.underlying78
    a66 := Tryd.isAgg78
    z66 := Tryd.sizeOf78
    v66 := Tryd.zeroValue78
    t70 := Tryd.underlying82
    a70 := Tryd.isAgg82
    z70 := Tryd.sizeOf82
    v70 := Tryd.zeroValue82
    t76 := Tryd.underlying85
    a76 := Tryd.isAgg85
    z76 := Tryd.sizeOf85
    v76 := Tryd.zeroValue85
    t77 := Tryd.underlying86
    a77 := Tryd.isAgg86
    z77 := Tryd.sizeOf86
    v77 := Tryd.zeroValue86 }
end Go.Proofs.YtjmomgmbmgdeoaaDoor
