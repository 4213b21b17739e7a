/-
  The shelf's contracts laid at this program, in plain words: that the library's functions stand in it as the shelf has them. No condition.
-/
import Derived.Test.YtejceacoopgjkaaRows
import Derived.Shelf.SlSortCmp.NoneTotal
import Derived.Shelf.SlicesE.IndexFunc
import Derived.Shelf.SlicesE.Clone
import Derived.Shelf.SlicesE.Equal
import Derived.Shelf.SlCmpFuncs.IsSortedFunc
namespace Go.Proofs.Ytejceacoopgjkaa
open Go.Shelf
def sortL_ren : Ren := ⟨fun | 6 => 47 | 15 => 52 | 14 => 53 | 28 => 63 | 29 => 64 | 20 => 65 | 21 => 66 | 22 => 67 | 23 => 68 | 24 => 69 | 25 => 70 | 26 => 71 | 27 => 72 | 46 => 79 | 47 => 74 | 48 => 75 | 49 => 80 | 50 => 81 | 57 => 83 | n => n, fun | 22 => 23 | 24 => 22 | 25 => 26 | 3 => 3 | 39 => 60 | 0 => 0 | 53 => 81 | 55 => 38 | 4 => 4 | 46 => 73 | 45 => 72 | 50 => 78 | 5 => 5 | 9 => 9 | 66 => 88 | 70 => 92 | 76 => 97 | 77 => 98 | n => n, fun | n => n⟩
theorem sortL : Go.Proofs.SlLaysF.n6 Try.prog sortL_ren :=
  {
    mixed := by kernel_rfl
    f6 := ⟨Try.f47.name, by decide, Try.func47.trans (congrArg some (by kernel_rfl))⟩
    f14 := ⟨Try.f53.name, by decide, Try.func53.trans (congrArg some (by kernel_rfl))⟩
    f15 := Try.func52.trans (congrArg some (by kernel_rfl))
    f20 := ⟨Try.f65.name, by decide, Try.func65.trans (congrArg some (by kernel_rfl))⟩
    f21 := ⟨Try.f66.name, by decide, Try.func66.trans (congrArg some (by kernel_rfl))⟩
    f22 := ⟨Try.f67.name, by decide, Try.func67.trans (congrArg some (by kernel_rfl))⟩
    f23 := ⟨Try.f68.name, by decide, Try.func68.trans (congrArg some (by kernel_rfl))⟩
    f24 := ⟨Try.f69.name, by decide, Try.func69.trans (congrArg some (by kernel_rfl))⟩
    f25 := ⟨Try.f70.name, by decide, Try.func70.trans (congrArg some (by kernel_rfl))⟩
    f26 := ⟨Try.f71.name, by decide, Try.func71.trans (congrArg some (by kernel_rfl))⟩
    f27 := ⟨Try.f72.name, by decide, Try.func72.trans (congrArg some (by kernel_rfl))⟩
    f28 := Try.func63.trans (congrArg some (by kernel_rfl))
    f29 := Try.func64.trans (congrArg some (by kernel_rfl))
    f46 := ⟨Try.f79.name, by decide, Try.func79.trans (congrArg some (by kernel_rfl))⟩
    f47 := Try.func74.trans (congrArg some (by kernel_rfl))
    f48 := Try.func75.trans (congrArg some (by kernel_rfl))
    f49 := ⟨Try.f80.name, by decide, Try.func80.trans (congrArg some (by kernel_rfl))⟩
    f50 := ⟨Try.f81.name, by decide, Try.func81.trans (congrArg some (by kernel_rfl))⟩
    f57 := ⟨Try.f83.name, by decide, Try.func83.trans (congrArg some (by kernel_rfl))⟩
    t0 := Try.underlying0
    a0 := Try.isAgg0
    z0 := Try.sizeOf0
    v0 := Try.zeroValue0
    t3 := Try.underlying3
    a3 := Try.isAgg3
    z3 := Try.sizeOf3
    v3 := Try.zeroValue3
    t4 := Try.underlying4
    a4 := Try.isAgg4
    z4 := Try.sizeOf4
    v4 := Try.zeroValue4
    t5 := Try.underlying5
    a5 := Try.isAgg5
    z5 := Try.sizeOf5
    v5 := Try.zeroValue5
    t9 := Try.underlying9
    a9 := Try.isAgg9
    z9 := Try.sizeOf9
    v9 := Try.zeroValue9
    t22 := Try.underlying23
    a22 := Try.isAgg23
    z22 := Try.sizeOf23
    v22 := Try.zeroValue23
    a24 := Try.isAgg22
    z24 := Try.sizeOf22
    t25 := Try.underlying26
    a25 := Try.isAgg26
    z25 := Try.sizeOf26
    v25 := Try.zeroValue26
    t39 := Try.underlying60
    a39 := Try.isAgg60
    z39 := Try.sizeOf60
    v39 := Try.zeroValue60
    t45 := Try.underlying72
    a45 := Try.isAgg72
    z45 := Try.sizeOf72
    v45 := Try.zeroValue72
    t46 := Try.underlying73
    a46 := Try.isAgg73
    z46 := Try.sizeOf73
    v46 := Try.zeroValue73
    t50 := Try.underlying78
    a50 := Try.isAgg78
    z50 := Try.sizeOf78
    v50 := Try.zeroValue78
    t53 := Try.underlying81
    a53 := Try.isAgg81
    z53 := Try.sizeOf81
    v53 := Try.zeroValue81
    t55 := Try.underlying38
    a55 := Try.isAgg38
    z55 := Try.sizeOf38
    v55 := Try.zeroValue38
    t66 := Try.underlying88
    a66 := Try.isAgg88
    z66 := Try.sizeOf88
    v66 := Try.zeroValue88
    t70 := Try.underlying92
    a70 := Try.isAgg92
    z70 := Try.sizeOf92
    v70 := Try.zeroValue92
    t76 := Try.underlying97
    a76 := Try.isAgg97
    z76 := Try.sizeOf97
    v76 := Try.zeroValue97
    t77 := Try.underlying98
    a77 := Try.isAgg98
    z77 := Try.sizeOf98
    v77 := Try.zeroValue98 }
def cloneL_ren : Ren := ⟨fun | 41 => 37 | n => n, fun | 22 => 23 | 23 => 22 | 4 => 4 | n => n, fun | n => n⟩
theorem cloneL : Go.Proofs.SlLaysE0.n41 Try.prog cloneL_ren :=
  {
    mixed := by kernel_rfl
    f41 := ⟨Try.f37.name, by decide, Try.func37.trans (congrArg some (by kernel_rfl))⟩
    t4 := Try.underlying4
    a4 := Try.isAgg4
    z4 := Try.sizeOf4
    v4 := Try.zeroValue4
    t22 := Try.underlying23
    a22 := Try.isAgg23
    z22 := Try.sizeOf23
    v22 := Try.zeroValue23 }
def containsL_ren : Ren := ⟨fun | 8 => 35 | 6 => 50 | n => n, fun | 22 => 23 | 23 => 22 | 25 => 25 | 4 => 4 | 3 => 3 | 0 => 0 | n => n, fun | n => n⟩
theorem containsL : Go.Proofs.SlLaysH.n8 Try.prog containsL_ren :=
  {
    mixed := by kernel_rfl
    f6 := ⟨Try.f50.name, by decide, Try.func50.trans (congrArg some (by kernel_rfl))⟩
    f8 := ⟨Try.f35.name, by decide, Try.func35.trans (congrArg some (by kernel_rfl))⟩
    t0 := Try.underlying0
    a0 := Try.isAgg0
    z0 := Try.sizeOf0
    v0 := Try.zeroValue0
    t3 := Try.underlying3
    a3 := Try.isAgg3
    z3 := Try.sizeOf3
    v3 := Try.zeroValue3
    t4 := Try.underlying4
    a4 := Try.isAgg4
    z4 := Try.sizeOf4
    v4 := Try.zeroValue4
    t22 := Try.underlying23
    a22 := Try.isAgg23
    z22 := Try.sizeOf23
    v22 := Try.zeroValue23
    a23 := Try.isAgg22
    z23 := Try.sizeOf22
    t25 := Try.underlying25
    a25 := Try.isAgg25
    z25 := Try.sizeOf25
    v25 := Try.zeroValue25 }
def isSortedL_ren : Ren := ⟨fun | 7 => 38 | n => n, fun | 22 => 23 | 24 => 22 | 25 => 26 | 4 => 4 | 3 => 3 | 0 => 0 | n => n, fun | n => n⟩
theorem isSortedL : Go.Proofs.SlLaysG2.n7 Try.prog isSortedL_ren :=
  {
    mixed := by kernel_rfl
    f7 := ⟨Try.f38.name, by decide, Try.func38.trans (congrArg some (by kernel_rfl))⟩
    t0 := Try.underlying0
    a0 := Try.isAgg0
    z0 := Try.sizeOf0
    v0 := Try.zeroValue0
    t3 := Try.underlying3
    a3 := Try.isAgg3
    z3 := Try.sizeOf3
    v3 := Try.zeroValue3
    t4 := Try.underlying4
    a4 := Try.isAgg4
    z4 := Try.sizeOf4
    v4 := Try.zeroValue4
    t22 := Try.underlying23
    a22 := Try.isAgg23
    z22 := Try.sizeOf23
    v22 := Try.zeroValue23
    a24 := Try.isAgg22
    z24 := Try.sizeOf22
    t25 := Try.underlying26
    a25 := Try.isAgg26
    z25 := Try.sizeOf26
    v25 := Try.zeroValue26 }
def equalL_ren : Ren := ⟨fun | 33 => 41 | n => n, fun | 22 => 54 | 23 => 38 | 4 => 4 | 3 => 3 | 0 => 0 | n => n, fun | n => n⟩
theorem equalL : Go.Proofs.SlLaysE.n33 Try.prog equalL_ren :=
  {
    mixed := by kernel_rfl
    f33 := ⟨Try.f41.name, by decide, Try.func41.trans (congrArg some (by kernel_rfl))⟩
    t0 := Try.underlying0
    a0 := Try.isAgg0
    z0 := Try.sizeOf0
    v0 := Try.zeroValue0
    t3 := Try.underlying3
    a3 := Try.isAgg3
    z3 := Try.sizeOf3
    v3 := Try.zeroValue3
    t4 := Try.underlying4
    a4 := Try.isAgg4
    z4 := Try.sizeOf4
    v4 := Try.zeroValue4
    t22 := Try.underlying54
    a22 := Try.isAgg54
    z22 := Try.sizeOf54
    v22 := Try.zeroValue54
    a23 := Try.isAgg38
    z23 := Try.sizeOf38 }
end Go.Proofs.Ytejceacoopgjkaa
