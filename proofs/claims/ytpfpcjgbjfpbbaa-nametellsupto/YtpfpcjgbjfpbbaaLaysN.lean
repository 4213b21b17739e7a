/-
  The shelf's contracts laid at this program, in plain words: that the library's functions stand in it as the shelf has them. No condition.
-/
import Derived.Test.YtpfpcjgbjfpbbaaRows
import Derived.Shelf.SortM.Plain
import Derived.Shelf.SortM.SortNone
import Derived.Shelf.SlicesG.CompactS
import Derived.Shelf.SlicesE.Index
import Derived.Shelf.SlicesE.Equal
import Derived.Shelf.SlicesE.Clone
import Derived.Shelf.SlicesE.IndexFunc
namespace Go.Proofs.Ytpfpcjgbjfpbbaa
open Go.Shelf
def sortL_ren : Ren := ⟨fun | 6 => 25 | 8 => 35 | 9 => 34 | 19 => 53 | 20 => 54 | 21 => 45 | 22 => 46 | 23 => 47 | 24 => 48 | 25 => 49 | 26 => 50 | 27 => 39 | 28 => 51 | 29 => 52 | 36 => 60 | 31 => 61 | 32 => 62 | 37 => 63 | 38 => 64 | 39 => 56 | 41 => 66 | n => n, fun | 27 => 22 | 29 => 9 | 3 => 3 | 32 => 50 | 26 => 22 | 0 => 0 | 44 => 67 | 46 => 69 | 4 => 4 | 36 => 61 | 35 => 60 | 41 => 33 | 5 => 5 | 9 => 9 | 53 => 73 | 57 => 77 | 63 => 79 | 64 => 80 | n => n, fun | n => n⟩
theorem sortL : Go.Proofs.SlLaysM.n6 Try.prog sortL_ren :=
  {
    mixed := by kernel_rfl
    f6 := ⟨Try.f25.name, by decide, Try.func25.trans (congrArg some (by kernel_rfl))⟩
    f8 := Try.func35.trans (congrArg some (by kernel_rfl))
    f9 := ⟨Try.f34.name, by decide, Try.func34.trans (congrArg some (by kernel_rfl))⟩
    f19 := Try.func53.trans (congrArg some (by kernel_rfl))
    f20 := Try.func54.trans (congrArg some (by kernel_rfl))
    f21 := ⟨Try.f45.name, by decide, Try.func45.trans (congrArg some (by kernel_rfl))⟩
    f22 := ⟨Try.f46.name, by decide, Try.func46.trans (congrArg some (by kernel_rfl))⟩
    f23 := ⟨Try.f47.name, by decide, Try.func47.trans (congrArg some (by kernel_rfl))⟩
    f24 := ⟨Try.f48.name, by decide, Try.func48.trans (congrArg some (by kernel_rfl))⟩
    f25 := ⟨Try.f49.name, by decide, Try.func49.trans (congrArg some (by kernel_rfl))⟩
    f26 := ⟨Try.f50.name, by decide, Try.func50.trans (congrArg some (by kernel_rfl))⟩
    f27 := ⟨Try.f39.name, by decide, Try.func39.trans (congrArg some (by kernel_rfl))⟩
    f28 := ⟨Try.f51.name, by decide, Try.func51.trans (congrArg some (by kernel_rfl))⟩
    f29 := ⟨Try.f52.name, by decide, Try.func52.trans (congrArg some (by kernel_rfl))⟩
    f31 := Try.func61.trans (congrArg some (by kernel_rfl))
    f32 := Try.func62.trans (congrArg some (by kernel_rfl))
    f36 := ⟨Try.f60.name, by decide, Try.func60.trans (congrArg some (by kernel_rfl))⟩
    f37 := ⟨Try.f63.name, by decide, Try.func63.trans (congrArg some (by kernel_rfl))⟩
    f38 := ⟨Try.f64.name, by decide, Try.func64.trans (congrArg some (by kernel_rfl))⟩
    f39 := ⟨Try.f56.name, by decide, Try.func56.trans (congrArg some (by kernel_rfl))⟩
    f41 := ⟨Try.f66.name, by decide, Try.func66.trans (congrArg some (by kernel_rfl))⟩
    t0 := Try.underlying0
    a0 := Try.isAgg0
    z0 := Try.sizeOf0
    v0 := Try.zeroValue0
    t3 := Try.underlying3
    a3 := Try.isAgg3
    z3 := Try.sizeOf3
    v3 := Try.zeroValue3
    t4 := Try.underlying4
    a4 := Try.isAgg4
    z4 := Try.sizeOf4
    v4 := Try.zeroValue4
    t5 := Try.underlying5
    a5 := Try.isAgg5
    z5 := Try.sizeOf5
    v5 := Try.zeroValue5
    t9 := Try.underlying9
    a9 := Try.isAgg9
    z9 := Try.sizeOf9
    v9 := Try.zeroValue9
    t26 := Try.underlying22
    a26 := Try.isAgg22
    z26 := Try.sizeOf22
    v26 := Try.zeroValue22
    t27 := Try.underlying22
    a27 := Try.isAgg22
    z27 := Try.sizeOf22
    v27 := Try.zeroValue22
    t29 := Try.underlying9
    a29 := Try.isAgg9
    z29 := Try.sizeOf9
    v29 := Try.zeroValue9
    t32 := Try.underlying50
    a32 := Try.isAgg50
    z32 := Try.sizeOf50
    v32 := Try.zeroValue50
    t35 := Try.underlying60
    a35 := Try.isAgg60
    z35 := Try.sizeOf60
    v35 := Try.zeroValue60
    t36 := Try.underlying61
    a36 := Try.isAgg61
    z36 := Try.sizeOf61
    v36 := Try.zeroValue61
    t41 := Try.underlying33
    a41 := Try.isAgg33
    z41 := Try.sizeOf33
    v41 := Try.zeroValue33
    t44 := Try.underlying67
    a44 := Try.isAgg67
    z44 := Try.sizeOf67
    v44 := Try.zeroValue67
    t46 := Try.underlying69
    a46 := Try.isAgg69
    z46 := Try.sizeOf69
    v46 := Try.zeroValue69
    t53 := Try.underlying73
    a53 := Try.isAgg73
    z53 := Try.sizeOf73
    v53 := Try.zeroValue73
    t57 := Try.underlying77
    a57 := Try.isAgg77
    z57 := Try.sizeOf77
    v57 := Try.zeroValue77
    t63 := Try.underlying79
    a63 := Try.isAgg79
    z63 := Try.sizeOf79
    v63 := Try.zeroValue79
    t64 := Try.underlying80
    a64 := Try.isAgg80
    z64 := Try.sizeOf80
    v64 := Try.zeroValue80 }
def compactL_ren : Ren := ⟨fun | 44 => 26 | n => n, fun | 25 => 22 | 26 => 9 | 3 => 3 | 4 => 4 | 0 => 0 | n => n, fun | n => n⟩
theorem compactL : Go.Proofs.SlLaysN.n44 Try.prog compactL_ren :=
  {
    mixed := by kernel_rfl
    f44 := ⟨Try.f26.name, by decide, Try.func26.trans (congrArg some (by kernel_rfl))⟩
    t0 := Try.underlying0
    a0 := Try.isAgg0
    z0 := Try.sizeOf0
    v0 := Try.zeroValue0
    t3 := Try.underlying3
    a3 := Try.isAgg3
    z3 := Try.sizeOf3
    v3 := Try.zeroValue3
    t4 := Try.underlying4
    a4 := Try.isAgg4
    z4 := Try.sizeOf4
    v4 := Try.zeroValue4
    t25 := Try.underlying22
    a25 := Try.isAgg22
    z25 := Try.sizeOf22
    v25 := Try.zeroValue22
    t26 := Try.underlying9
    a26 := Try.isAgg9
    z26 := Try.sizeOf9
    v26 := Try.zeroValue9
    i26 := by kernel_rfl }
def containsL_ren : Ren := ⟨fun | 31 => 21 | 29 => 31 | n => n, fun | 22 => 22 | 23 => 9 | 4 => 4 | 3 => 3 | 0 => 0 | n => n, fun | n => n⟩
theorem containsL : Go.Proofs.SlLaysE.n31 Try.prog containsL_ren :=
  {
    mixed := by kernel_rfl
    f29 := ⟨Try.f31.name, by decide, Try.func31.trans (congrArg some (by kernel_rfl))⟩
    f31 := ⟨Try.f21.name, by decide, Try.func21.trans (congrArg some (by kernel_rfl))⟩
    t0 := Try.underlying0
    a0 := Try.isAgg0
    z0 := Try.sizeOf0
    v0 := Try.zeroValue0
    t3 := Try.underlying3
    a3 := Try.isAgg3
    z3 := Try.sizeOf3
    v3 := Try.zeroValue3
    t4 := Try.underlying4
    a4 := Try.isAgg4
    z4 := Try.sizeOf4
    v4 := Try.zeroValue4
    t22 := Try.underlying22
    a22 := Try.isAgg22
    z22 := Try.sizeOf22
    v22 := Try.zeroValue22
    a23 := Try.isAgg9
    z23 := Try.sizeOf9 }
def equalL_ren : Ren := ⟨fun | 33 => 18 | n => n, fun | 22 => 22 | 23 => 9 | 4 => 4 | 3 => 3 | 0 => 0 | n => n, fun | n => n⟩
theorem equalL : Go.Proofs.SlLaysE.n33 Try.prog equalL_ren :=
  {
    mixed := by kernel_rfl
    f33 := ⟨Try.f18.name, by decide, Try.func18.trans (congrArg some (by kernel_rfl))⟩
    t0 := Try.underlying0
    a0 := Try.isAgg0
    z0 := Try.sizeOf0
    v0 := Try.zeroValue0
    t3 := Try.underlying3
    a3 := Try.isAgg3
    z3 := Try.sizeOf3
    v3 := Try.zeroValue3
    t4 := Try.underlying4
    a4 := Try.isAgg4
    z4 := Try.sizeOf4
    v4 := Try.zeroValue4
    t22 := Try.underlying22
    a22 := Try.isAgg22
    z22 := Try.sizeOf22
    v22 := Try.zeroValue22
    a23 := Try.isAgg9
    z23 := Try.sizeOf9 }
def cloneL_ren : Ren := ⟨fun | 41 => 19 | n => n, fun | 22 => 22 | 23 => 9 | 4 => 4 | n => n, fun | n => n⟩
theorem cloneL : Go.Proofs.SlLaysE0.n41 Try.prog cloneL_ren :=
  {
    mixed := by kernel_rfl
    f41 := ⟨Try.f19.name, by decide, Try.func19.trans (congrArg some (by kernel_rfl))⟩
    t4 := Try.underlying4
    a4 := Try.isAgg4
    z4 := Try.sizeOf4
    v4 := Try.zeroValue4
    t22 := Try.underlying22
    a22 := Try.isAgg22
    z22 := Try.sizeOf22
    v22 := Try.zeroValue22 }
def containsFL_ren : Ren := ⟨fun | 8 => 22 | 6 => 32 | n => n, fun | 22 => 22 | 23 => 9 | 25 => 29 | 4 => 4 | 3 => 3 | 0 => 0 | n => n, fun | n => n⟩
theorem containsFL : Go.Proofs.SlLaysH.n8 Try.prog containsFL_ren :=
  {
    mixed := by kernel_rfl
    f6 := ⟨Try.f32.name, by decide, Try.func32.trans (congrArg some (by kernel_rfl))⟩
    f8 := ⟨Try.f22.name, by decide, Try.func22.trans (congrArg some (by kernel_rfl))⟩
    t0 := Try.underlying0
    a0 := Try.isAgg0
    z0 := Try.sizeOf0
    v0 := Try.zeroValue0
    t3 := Try.underlying3
    a3 := Try.isAgg3
    z3 := Try.sizeOf3
    v3 := Try.zeroValue3
    t4 := Try.underlying4
    a4 := Try.isAgg4
    z4 := Try.sizeOf4
    v4 := Try.zeroValue4
    t22 := Try.underlying22
    a22 := Try.isAgg22
    z22 := Try.sizeOf22
    v22 := Try.zeroValue22
    a23 := Try.isAgg9
    z23 := Try.sizeOf9
    t25 := Try.underlying29
    a25 := Try.isAgg29
    z25 := Try.sizeOf29
    v25 := Try.zeroValue29 }
end Go.Proofs.Ytpfpcjgbjfpbbaa
