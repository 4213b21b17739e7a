/-
  The shelf's contracts laid at this program, in plain words: that the library's functions stand in it as the shelf has them. No condition.
-/
import Derived.Test.YtihiohohocfchaaRows
import Derived.Shelf.SortM.Plain
import Derived.Shelf.SortM.SortNone
import Derived.Shelf.SlicesG.CompactS
import Derived.Shelf.SlicesE.Index
import Derived.Shelf.SlicesE.Equal
import Derived.Shelf.SlicesE.Clone
namespace Go.Proofs.Ytihiohohocfchaa
open Go.Shelf
def sortL_ren : Ren := ⟨fun | 6 => 49 | 8 => 62 | 9 => 61 | 19 => 79 | 20 => 80 | 21 => 70 | 22 => 71 | 23 => 72 | 24 => 73 | 25 => 74 | 26 => 75 | 27 => 76 | 28 => 77 | 29 => 78 | 36 => 88 | 31 => 89 | 32 => 90 | 37 => 91 | 38 => 92 | 39 => 93 | 41 => 98 | n => n, fun | 27 => 24 | 29 => 9 | 3 => 3 | 32 => 84 | 26 => 24 | 0 => 0 | 44 => 96 | 46 => 98 | 4 => 4 | 36 => 90 | 35 => 89 | 41 => 74 | 5 => 5 | 9 => 9 | 53 => 105 | 57 => 109 | 63 => 114 | 64 => 115 | n => n, fun | n => n⟩
theorem sortL : Go.Proofs.SlLaysM.n6 Try.prog sortL_ren :=
  {
    mixed := by kernel_rfl
    f6 := ⟨Try.f49.name, by decide, Try.func49.trans (congrArg some (by kernel_rfl))⟩
    f8 := Try.func62.trans (congrArg some (by kernel_rfl))
    f9 := ⟨Try.f61.name, by decide, Try.func61.trans (congrArg some (by kernel_rfl))⟩
    f19 := Try.func79.trans (congrArg some (by kernel_rfl))
    f20 := Try.func80.trans (congrArg some (by kernel_rfl))
    f21 := ⟨Try.f70.name, by decide, Try.func70.trans (congrArg some (by kernel_rfl))⟩
    f22 := ⟨Try.f71.name, by decide, Try.func71.trans (congrArg some (by kernel_rfl))⟩
    f23 := ⟨Try.f72.name, by decide, Try.func72.trans (congrArg some (by kernel_rfl))⟩
    f24 := ⟨Try.f73.name, by decide, Try.func73.trans (congrArg some (by kernel_rfl))⟩
    f25 := ⟨Try.f74.name, by decide, Try.func74.trans (congrArg some (by kernel_rfl))⟩
    f26 := ⟨Try.f75.name, by decide, Try.func75.trans (congrArg some (by kernel_rfl))⟩
    f27 := ⟨Try.f76.name, by decide, Try.func76.trans (congrArg some (by kernel_rfl))⟩
    f28 := ⟨Try.f77.name, by decide, Try.func77.trans (congrArg some (by kernel_rfl))⟩
    f29 := ⟨Try.f78.name, by decide, Try.func78.trans (congrArg some (by kernel_rfl))⟩
    f31 := Try.func89.trans (congrArg some (by kernel_rfl))
    f32 := Try.func90.trans (congrArg some (by kernel_rfl))
    f36 := ⟨Try.f88.name, by decide, Try.func88.trans (congrArg some (by kernel_rfl))⟩
    f37 := ⟨Try.f91.name, by decide, Try.func91.trans (congrArg some (by kernel_rfl))⟩
    f38 := ⟨Try.f92.name, by decide, Try.func92.trans (congrArg some (by kernel_rfl))⟩
    f39 := ⟨Try.f93.name, by decide, Try.func93.trans (congrArg some (by kernel_rfl))⟩
    f41 := ⟨Try.f98.name, by decide, Try.func98.trans (congrArg some (by kernel_rfl))⟩
    t0 := Try.underlying0
    a0 := Try.isAgg0
    z0 := Try.sizeOf0
    v0 := Try.zeroValue0
    t3 := Try.underlying3
    a3 := Try.isAgg3
    z3 := Try.sizeOf3
    v3 := Try.zeroValue3
    t4 := Try.underlying4
    a4 := Try.isAgg4
    z4 := Try.sizeOf4
    v4 := Try.zeroValue4
    t5 := Try.underlying5
    a5 := Try.isAgg5
    z5 := Try.sizeOf5
    v5 := Try.zeroValue5
    t9 := Try.underlying9
    a9 := Try.isAgg9
    z9 := Try.sizeOf9
    v9 := Try.zeroValue9
    t26 := Try.underlying24
    a26 := Try.isAgg24
    z26 := Try.sizeOf24
    v26 := Try.zeroValue24
    t27 := Try.underlying24
    a27 := Try.isAgg24
    z27 := Try.sizeOf24
    v27 := Try.zeroValue24
    t29 := Try.underlying9
    a29 := Try.isAgg9
    z29 := Try.sizeOf9
    v29 := Try.zeroValue9
    t32 := Try.underlying84
    a32 := Try.isAgg84
    z32 := Try.sizeOf84
    v32 := Try.zeroValue84
    t35 := Try.underlying89
    a35 := Try.isAgg89
    z35 := Try.sizeOf89
    v35 := Try.zeroValue89
    t36 := Try.underlying90
    a36 := Try.isAgg90
    z36 := Try.sizeOf90
    v36 := Try.zeroValue90
    t41 := Try.underlying74
    a41 := Try.isAgg74
    z41 := Try.sizeOf74
    v41 := Try.zeroValue74
    t44 := Try.underlying96
    a44 := Try.isAgg96
    z44 := Try.sizeOf96
    v44 := Try.zeroValue96
    t46 := Try.underlying98
    a46 := Try.isAgg98
    z46 := Try.sizeOf98
    v46 := Try.zeroValue98
    t53 := Try.underlying105
    a53 := Try.isAgg105
    z53 := Try.sizeOf105
    v53 := Try.zeroValue105
    t57 := Try.underlying109
    a57 := Try.isAgg109
    z57 := Try.sizeOf109
    v57 := Try.zeroValue109
    t63 := Try.underlying114
    a63 := Try.isAgg114
    z63 := Try.sizeOf114
    v63 := Try.zeroValue114
    t64 := Try.underlying115
    a64 := Try.isAgg115
    z64 := Try.sizeOf115
    v64 := Try.zeroValue115 }
def compactL_ren : Ren := ⟨fun | 44 => 50 | n => n, fun | 25 => 24 | 26 => 9 | 3 => 3 | 4 => 4 | 0 => 0 | n => n, fun | n => n⟩
theorem compactL : Go.Proofs.SlLaysN.n44 Try.prog compactL_ren :=
  {
    mixed := by kernel_rfl
    f44 := ⟨Try.f50.name, by decide, Try.func50.trans (congrArg some (by kernel_rfl))⟩
    t0 := Try.underlying0
    a0 := Try.isAgg0
    z0 := Try.sizeOf0
    v0 := Try.zeroValue0
    t3 := Try.underlying3
    a3 := Try.isAgg3
    z3 := Try.sizeOf3
    v3 := Try.zeroValue3
    t4 := Try.underlying4
    a4 := Try.isAgg4
    z4 := Try.sizeOf4
    v4 := Try.zeroValue4
    t25 := Try.underlying24
    a25 := Try.isAgg24
    z25 := Try.sizeOf24
    v25 := Try.zeroValue24
    t26 := Try.underlying9
    a26 := Try.isAgg9
    z26 := Try.sizeOf9
    v26 := Try.zeroValue9
    i26 := by kernel_rfl }
def containsL_ren : Ren := ⟨fun | 31 => 58 | 29 => 69 | n => n, fun | 22 => 24 | 23 => 9 | 4 => 4 | 3 => 3 | 0 => 0 | n => n, fun | n => n⟩
theorem containsL : Go.Proofs.SlLaysE.n31 Try.prog containsL_ren :=
  {
    mixed := by kernel_rfl
    f29 := ⟨Try.f69.name, by decide, Try.func69.trans (congrArg some (by kernel_rfl))⟩
    f31 := ⟨Try.f58.name, by decide, Try.func58.trans (congrArg some (by kernel_rfl))⟩
    t0 := Try.underlying0
    a0 := Try.isAgg0
    z0 := Try.sizeOf0
    v0 := Try.zeroValue0
    t3 := Try.underlying3
    a3 := Try.isAgg3
    z3 := Try.sizeOf3
    v3 := Try.zeroValue3
    t4 := Try.underlying4
    a4 := Try.isAgg4
    z4 := Try.sizeOf4
    v4 := Try.zeroValue4
    t22 := Try.underlying24
    a22 := Try.isAgg24
    z22 := Try.sizeOf24
    v22 := Try.zeroValue24
    a23 := Try.isAgg9
    z23 := Try.sizeOf9 }
def equalL_ren : Ren := ⟨fun | 33 => 18 | n => n, fun | 22 => 24 | 23 => 9 | 4 => 4 | 3 => 3 | 0 => 0 | n => n, fun | n => n⟩
theorem equalL : Go.Proofs.SlLaysE.n33 Try.prog equalL_ren :=
  {
    mixed := by kernel_rfl
    f33 := ⟨Try.f18.name, by decide, Try.func18.trans (congrArg some (by kernel_rfl))⟩
    t0 := Try.underlying0
    a0 := Try.isAgg0
    z0 := Try.sizeOf0
    v0 := Try.zeroValue0
    t3 := Try.underlying3
    a3 := Try.isAgg3
    z3 := Try.sizeOf3
    v3 := Try.zeroValue3
    t4 := Try.underlying4
    a4 := Try.isAgg4
    z4 := Try.sizeOf4
    v4 := Try.zeroValue4
    t22 := Try.underlying24
    a22 := Try.isAgg24
    z22 := Try.sizeOf24
    v22 := Try.zeroValue24
    a23 := Try.isAgg9
    z23 := Try.sizeOf9 }
def cloneL_ren : Ren := ⟨fun | 41 => 48 | n => n, fun | 22 => 24 | 23 => 9 | 4 => 4 | n => n, fun | n => n⟩
theorem cloneL : Go.Proofs.SlLaysE0.n41 Try.prog cloneL_ren :=
  {
    mixed := by kernel_rfl
    f41 := ⟨Try.f48.name, by decide, Try.func48.trans (congrArg some (by kernel_rfl))⟩
    t4 := Try.underlying4
    a4 := Try.isAgg4
    z4 := Try.sizeOf4
    v4 := Try.zeroValue4
    t22 := Try.underlying24
    a22 := Try.isAgg24
    z22 := Try.sizeOf24
    v22 := Try.zeroValue24 }
end Go.Proofs.Ytihiohohocfchaa
