/-
  The shelf's contracts laid at this program, in plain words: that the library's functions stand in it as the shelf has them. No condition.
-/
import Derived.Test.YtdencbkepiaigaaDoorRows
import Derived.Shelf.SortM.Plain
import Derived.Shelf.SortM.SortNone
import Derived.Shelf.SlicesG.CompactS
import Derived.Shelf.SlicesE.Index
import Derived.Shelf.SlicesE.Equal
import Derived.Shelf.SlicesE.Clone
namespace Go.Proofs.YtdencbkepiaigaaDoor
open Go.Shelf
def sortL_ren : Ren := ⟨fun | 6 => 63 | 8 => 79 | 9 => 78 | 19 => 95 | 20 => 96 | 21 => 86 | 22 => 87 | 23 => 88 | 24 => 89 | 25 => 90 | 26 => 91 | 27 => 92 | 28 => 93 | 29 => 94 | 36 => 100 | 31 => 101 | 32 => 102 | 37 => 103 | 38 => 104 | 39 => 105 | 41 => 109 | n => n, fun | 27 => 22 | 29 => 9 | 3 => 3 | 32 => 103 | 26 => 22 | 0 => 0 | 44 => 118 | 46 => 120 | 4 => 4 | 36 => 110 | 35 => 109 | 41 => 115 | 5 => 5 | 9 => 9 | 53 => 122 | 57 => 126 | 63 => 134 | 64 => 135 | n => n, fun | n => n⟩
theorem sortL : Go.Proofs.SlLaysM.n6 Tryd.prog sortL_ren :=
  {
    mixed := by kernel_rfl
    f6 := ⟨Tryd.f63.name, by decide, Tryd.func63.trans (congrArg some (by kernel_rfl))⟩
    f8 := Tryd.func79.trans (congrArg some (by kernel_rfl))
    f9 := ⟨Tryd.f78.name, by decide, Tryd.func78.trans (congrArg some (by kernel_rfl))⟩
    f19 := Tryd.func95.trans (congrArg some (by kernel_rfl))
    f20 := Tryd.func96.trans (congrArg some (by kernel_rfl))
    f21 := ⟨Tryd.f86.name, by decide, Tryd.func86.trans (congrArg some (by kernel_rfl))⟩
    f22 := ⟨Tryd.f87.name, by decide, Tryd.func87.trans (congrArg some (by kernel_rfl))⟩
    f23 := ⟨Tryd.f88.name, by decide, Tryd.func88.trans (congrArg some (by kernel_rfl))⟩
    f24 := ⟨Tryd.f89.name, by decide, Tryd.func89.trans (congrArg some (by kernel_rfl))⟩
    f25 := ⟨Tryd.f90.name, by decide, Tryd.func90.trans (congrArg some (by kernel_rfl))⟩
    f26 := ⟨Tryd.f91.name, by decide, Tryd.func91.trans (congrArg some (by kernel_rfl))⟩
    f27 := ⟨Tryd.f92.name, by decide, Tryd.func92.trans (congrArg some (by kernel_rfl))⟩
    f28 := ⟨Tryd.f93.name, by decide, Tryd.func93.trans (congrArg some (by kernel_rfl))⟩
    f29 := ⟨Tryd.f94.name, by decide, Tryd.func94.trans (congrArg some (by kernel_rfl))⟩
    f31 := Tryd.func101.trans (congrArg some (by kernel_rfl))
    f32 := Tryd.func102.trans (congrArg some (by kernel_rfl))
    f36 := ⟨Tryd.f100.name, by decide, Tryd.func100.trans (congrArg some (by kernel_rfl))⟩
    f37 := ⟨Tryd.f103.name, by decide, Tryd.func103.trans (congrArg some (by kernel_rfl))⟩
    f38 := ⟨Tryd.f104.name, by decide, Tryd.func104.trans (congrArg some (by kernel_rfl))⟩
    f39 := ⟨Tryd.f105.name, by decide, Tryd.func105.trans (congrArg some (by kernel_rfl))⟩
    f41 := ⟨Tryd.f109.name, by decide, Tryd.func109.trans (congrArg some (by kernel_rfl))⟩
    t0 := Tryd.underlying0
    a0 := Tryd.isAgg0
    z0 := Tryd.sizeOf0
    v0 := Tryd.zeroValue0
    t3 := Tryd.underlying3
    a3 := Tryd.isAgg3
    z3 := Tryd.sizeOf3
    v3 := Tryd.zeroValue3
    t4 := Tryd.underlying4
    a4 := Tryd.isAgg4
    z4 := Tryd.sizeOf4
    v4 := Tryd.zeroValue4
    t5 := Tryd.underlying5
    a5 := Tryd.isAgg5
    z5 := Tryd.sizeOf5
    v5 := Tryd.zeroValue5
    t9 := Tryd.underlying9
    a9 := Tryd.isAgg9
    z9 := Tryd.sizeOf9
    v9 := Tryd.zeroValue9
    t26 := Tryd.underlying22
    a26 := Tryd.isAgg22
    z26 := Tryd.sizeOf22
    v26 := Tryd.zeroValue22
    t27 := Tryd.underlying22
    a27 := Tryd.isAgg22
    z27 := Tryd.sizeOf22
    v27 := Tryd.zeroValue22
    t29 := Tryd.underlying9
    a29 := Tryd.isAgg9
    z29 := Tryd.sizeOf9
    v29 := Tryd.zeroValue9
    t32 := Tryd.underlying103
    a32 := Tryd.isAgg103
    z32 := Tryd.sizeOf103
    v32 := Tryd.zeroValue103
    t35 := Tryd.underlying109
    a35 := Tryd.isAgg109
    z35 := Tryd.sizeOf109
    v35 := Tryd.zeroValue109
    t36 := Tryd.underlying110
    a36 := Tryd.isAgg110
    z36 := Tryd.sizeOf110
    v36 := Tryd.zeroValue110
    t41 := Tryd.underlying115
    a41 := Tryd.isAgg115
    z41 := Tryd.sizeOf115
    v41 := Tryd.zeroValue115
    t44 := Tryd.underlying118
    a44 := Tryd.isAgg118
    z44 := Tryd.sizeOf118
    v44 := Tryd.zeroValue118
    t46 := Tryd.underlying120
    a46 := Tryd.isAgg120
    z46 := Tryd.sizeOf120
    v46 := Tryd.zeroValue120
    t53 := Tryd.underlying122
    a53 := Tryd.isAgg122
    z53 := Tryd.sizeOf122
    v53 := Tryd.zeroValue122
    t57 := Tryd.underlying126
    a57 := Tryd.isAgg126
    z57 := Tryd.sizeOf126
    v57 := Tryd.zeroValue126
    t63 := Tryd.underlying134
    a63 := Tryd.isAgg134
    z63 := Tryd.sizeOf134
    v63 := Tryd.zeroValue134
    t64 := Tryd.underlying135
    a64 := Tryd.isAgg135
    z64 := Tryd.sizeOf135
    v64 := Tryd.zeroValue135 }
def compactL_ren : Ren := ⟨fun | 44 => 64 | n => n, fun | 25 => 22 | 26 => 9 | 3 => 3 | 4 => 4 | 0 => 0 | n => n, fun | n => n⟩
theorem compactL : Go.Proofs.SlLaysN.n44 Tryd.prog compactL_ren :=
  {
    mixed := by kernel_rfl
    f44 := ⟨Tryd.f64.name, by decide, Tryd.func64.trans (congrArg some (by kernel_rfl))⟩
    t0 := Tryd.underlying0
    a0 := Tryd.isAgg0
    z0 := Tryd.sizeOf0
    v0 := Tryd.zeroValue0
    t3 := Tryd.underlying3
    a3 := Tryd.isAgg3
    z3 := Tryd.sizeOf3
    v3 := Tryd.zeroValue3
    t4 := Tryd.underlying4
    a4 := Tryd.isAgg4
    z4 := Tryd.sizeOf4
    v4 := Tryd.zeroValue4
    t25 := Tryd.underlying22
    a25 := Tryd.isAgg22
    z25 := Tryd.sizeOf22
    v25 := Tryd.zeroValue22
    t26 := Tryd.underlying9
    a26 := Tryd.isAgg9
    z26 := Tryd.sizeOf9
    v26 := Tryd.zeroValue9
    i26 := by kernel_rfl }
def containsL_ren : Ren := ⟨fun | 31 => 23 | 29 => 51 | n => n, fun | 22 => 22 | 23 => 9 | 4 => 4 | 3 => 3 | 0 => 0 | n => n, fun | n => n⟩
theorem containsL : Go.Proofs.SlLaysE.n31 Tryd.prog containsL_ren :=
  {
    mixed := by kernel_rfl
    f29 := ⟨Tryd.f51.name, by decide, Tryd.func51.trans (congrArg some (by kernel_rfl))⟩
    f31 := ⟨Tryd.f23.name, by decide, Tryd.func23.trans (congrArg some (by kernel_rfl))⟩
    t0 := Tryd.underlying0
    a0 := Tryd.isAgg0
    z0 := Tryd.sizeOf0
    v0 := Tryd.zeroValue0
    t3 := Tryd.underlying3
    a3 := Tryd.isAgg3
    z3 := Tryd.sizeOf3
    v3 := Tryd.zeroValue3
    t4 := Tryd.underlying4
    a4 := Tryd.isAgg4
    z4 := Tryd.sizeOf4
    v4 := Tryd.zeroValue4
    t22 := Tryd.underlying22
    a22 := Tryd.isAgg22
    z22 := Tryd.sizeOf22
    v22 := Tryd.zeroValue22
    a23 := Tryd.isAgg9
    z23 := Tryd.sizeOf9 }
def equalL_ren : Ren := ⟨fun | 33 => 18 | n => n, fun | 22 => 22 | 23 => 9 | 4 => 4 | 3 => 3 | 0 => 0 | n => n, fun | n => n⟩
theorem equalL : Go.Proofs.SlLaysE.n33 Tryd.prog equalL_ren :=
  {
    mixed := by kernel_rfl
    f33 := ⟨Tryd.f18.name, by decide, Tryd.func18.trans (congrArg some (by kernel_rfl))⟩
    t0 := Tryd.underlying0
    a0 := Tryd.isAgg0
    z0 := Tryd.sizeOf0
    v0 := Tryd.zeroValue0
    t3 := Tryd.underlying3
    a3 := Tryd.isAgg3
    z3 := Tryd.sizeOf3
    v3 := Tryd.zeroValue3
    t4 := Tryd.underlying4
    a4 := Tryd.isAgg4
    z4 := Tryd.sizeOf4
    v4 := Tryd.zeroValue4
    t22 := Tryd.underlying22
    a22 := Tryd.isAgg22
    z22 := Tryd.sizeOf22
    v22 := Tryd.zeroValue22
    a23 := Tryd.isAgg9
    z23 := Tryd.sizeOf9 }
def cloneL_ren : Ren := ⟨fun | 41 => 27 | n => n, fun | 22 => 22 | 23 => 9 | 4 => 4 | n => n, fun | n => n⟩
theorem cloneL : Go.Proofs.SlLaysE0.n41 Tryd.prog cloneL_ren :=
  {
    mixed := by kernel_rfl
    f41 := ⟨Tryd.f27.name, by decide, Tryd.func27.trans (congrArg some (by kernel_rfl))⟩
    t4 := Tryd.underlying4
    a4 := Tryd.isAgg4
    z4 := Tryd.sizeOf4
    v4 := Tryd.zeroValue4
    t22 := Tryd.underlying22
    a22 := Tryd.isAgg22
    z22 := Tryd.sizeOf22
    v22 := Tryd.zeroValue22 }
end Go.Proofs.YtdencbkepiaigaaDoor
