/-
  The shelf's contracts laid at this program, in plain words: that the library's functions stand in it as the shelf has them. No condition.
-/
import Derived.Test.YtpjcdfphllbonaaDoorRows
import Derived.Shelf.SlicesE.Equal
import Derived.Shelf.SlicesE.Clone
namespace Go.Proofs.YtpjcdfphllbonaaDoor
open Go.Shelf
def equalL_ren : Ren := ⟨fun | 33 => 30 | n => n, fun | 22 => 22 | 23 => 9 | 4 => 4 | 3 => 3 | 0 => 0 | n => n, fun | n => n⟩
theorem equalL : Go.Proofs.SlLaysE.n33 Tryd.prog equalL_ren :=
  {
    mixed := by kernel_rfl
    f33 := ⟨Tryd.f30.name, by decide, Tryd.func30.trans (congrArg some (by kernel_rfl))⟩
    t0 := Tryd.underlying0
    a0 := Tryd.isAgg0
    z0 := Tryd.sizeOf0
    v0 := Tryd.zeroValue0
    t3 := Tryd.underlying3
    a3 := Tryd.isAgg3
    z3 := Tryd.sizeOf3
    v3 := Tryd.zeroValue3
    t4 := Tryd.underlying4
    a4 := Tryd.isAgg4
    z4 := Tryd.sizeOf4
    v4 := Tryd.zeroValue4
    t22 := Tryd.underlying22
    a22 := Tryd.isAgg22
    z22 := Tryd.sizeOf22
    v22 := Tryd.zeroValue22
    a23 := Tryd.isAgg9
    z23 := Tryd.sizeOf9 }
def cloneL_ren : Ren := ⟨fun | 41 => 27 | n => n, fun | 22 => 22 | 23 => 9 | 4 => 4 | n => n, fun | n => n⟩
theorem cloneL : Go.Proofs.SlLaysE0.n41 Tryd.prog cloneL_ren :=
  {
    mixed := by kernel_rfl
    f41 := ⟨Tryd.f27.name, by decide, Tryd.func27.trans (congrArg some (by kernel_rfl))⟩
    t4 := Tryd.underlying4
    a4 := Tryd.isAgg4
    z4 := Tryd.sizeOf4
    v4 := Tryd.zeroValue4
    t22 := Tryd.underlying22
    a22 := Tryd.isAgg22
    z22 := Tryd.sizeOf22
    v22 := Tryd.zeroValue22 }
end Go.Proofs.YtpjcdfphllbonaaDoor
