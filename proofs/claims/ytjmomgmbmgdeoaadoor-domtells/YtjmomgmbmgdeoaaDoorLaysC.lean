/-
  The shelf's contracts laid at this program, in plain words: that the library's functions stand in it as the shelf has them. No condition.
-/
import Derived.Test.YtjmomgmbmgdeoaaDoorRows
import Derived.Shelf.SlicesE.Clone
namespace Go.Proofs.YtjmomgmbmgdeoaaDoor
open Go.Shelf
def cloneL_ren : Ren := ⟨fun | 41 => 18 | n => n, fun | 22 => 22 | 23 => 35 | 4 => 4 | n => n, fun | n => n⟩
theorem cloneL : Go.Proofs.SlLaysE0.n41 Tryd.prog cloneL_ren :=
  {
    mixed := by kernel_rfl
    f41 := ⟨Tryd.f18.name, by decide, Tryd.func18.trans (congrArg some (by kernel_rfl))⟩
    t4 := Tryd.underlying4
    a4 := Tryd.isAgg4
    z4 := Tryd.sizeOf4
    v4 := Tryd.zeroValue4
    t22 := Tryd.underlying22
    a22 := Tryd.isAgg22
    z22 := Tryd.sizeOf22
    v22 := Tryd.zeroValue22 }
end Go.Proofs.YtjmomgmbmgdeoaaDoor
