/-
  The shelf's contracts laid at this program, in plain words: that the library's functions stand in it as the shelf has them. No condition.
-/
import Derived.Test.YtpfpcjgbjfpbbaaRows
import Derived.Shelf.Strings.AsciiSet
import Derived.Shelf.Strings.LastIndex
namespace Go.Proofs.Ytpfpcjgbjfpbbaa
open Go.Shelf
def mkSetL_ren : Ren := ⟨fun | 227 => 43 | n => n, fun | 9 => 9 | 116 => 56 | 4 => 4 | 0 => 0 | 3 => 3 | 5 => 5 | n => n, fun | n => n⟩
theorem mkSetL : Go.Proofs.Lays.n227 Try.prog mkSetL_ren :=
  {
    mixed := by kernel_rfl
    f227 := Try.func43.trans (congrArg some (by kernel_rfl))
    t0 := Try.underlying0
    a0 := Try.isAgg0
    z0 := Try.sizeOf0
    v0 := Try.zeroValue0
    t3 := Try.underlying3
    a3 := Try.isAgg3
    z3 := Try.sizeOf3
    v3 := Try.zeroValue3
    t4 := Try.underlying4
    a4 := Try.isAgg4
    z4 := Try.sizeOf4
    v4 := Try.zeroValue4
    t5 := Try.underlying5
    a5 := Try.isAgg5
    z5 := Try.sizeOf5
    v5 := Try.zeroValue5
    t9 := Try.underlying9
    a9 := Try.isAgg9
    z9 := Try.sizeOf9
    v9 := Try.zeroValue9
    t116 := Try.underlying56
    a116 := Try.isAgg56
    z116 := Try.sizeOf56 }
def hasL_ren : Ren := ⟨fun | 228 => 44 | n => n, fun | 124 => 72 | 5 => 5 | 4 => 4 | 0 => 0 | 116 => 56 | n => n, fun | n => n⟩
theorem hasL : Go.Proofs.Lays.n228 Try.prog hasL_ren :=
  {
    mixed := by kernel_rfl
    f228 := Try.func44.trans (congrArg some (by kernel_rfl))
    t0 := Try.underlying0
    a0 := Try.isAgg0
    z0 := Try.sizeOf0
    v0 := Try.zeroValue0
    t4 := Try.underlying4
    a4 := Try.isAgg4
    z4 := Try.sizeOf4
    v4 := Try.zeroValue4
    t5 := Try.underlying5
    a5 := Try.isAgg5
    z5 := Try.sizeOf5
    v5 := Try.zeroValue5
    t116 := Try.underlying56
    a116 := Try.isAgg56
    z116 := Try.sizeOf56
    t124 := Try.underlying72
    a124 := Try.isAgg72
    z124 := Try.sizeOf72
    v124 := Try.zeroValue72 }
def lastL_ren : Ren := ⟨fun | 149 => 28 | 222 => 37 | n => n, fun | 9 => 9 | 5 => 5 | 3 => 3 | 4 => 4 | n => n, fun | n => n⟩
theorem lastL : Go.Proofs.Lays.n149 Try.prog lastL_ren :=
  {
    mixed := by kernel_rfl
    f149 := Try.func28.trans (congrArg some (by kernel_rfl))
    f222 := Try.func37.trans (congrArg some (by kernel_rfl))
    t3 := Try.underlying3
    a3 := Try.isAgg3
    z3 := Try.sizeOf3
    v3 := Try.zeroValue3
    t4 := Try.underlying4
    a4 := Try.isAgg4
    z4 := Try.sizeOf4
    v4 := Try.zeroValue4
    t5 := Try.underlying5
    a5 := Try.isAgg5
    z5 := Try.sizeOf5
    v5 := Try.zeroValue5
    t9 := Try.underlying9
    a9 := Try.isAgg9
    z9 := Try.sizeOf9
    v9 := Try.zeroValue9 }
end Go.Proofs.Ytpfpcjgbjfpbbaa
