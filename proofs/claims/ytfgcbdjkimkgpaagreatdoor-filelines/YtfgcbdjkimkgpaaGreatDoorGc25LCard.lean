/-
  For the cards: a world that holds the two tables of unicode/utf8; the library's variable out of the world's shape. No condition.
-/
import Derived.Test.YtfgcbdjkimkgpaaGreatDoorGc22FAd
import Derived.Test.YtfgcbdjkimkgpaaGreatDoorCards
import Derived.Test.YtfgcbdjkimkgpaaGreatDoorTie
import Derived.Test.YtfgcbdjkimkgpaaGreatDoorGc4LIn
import Derived.Deep.DeepHandedRow
import Derived.Lib.LaidTab
import Derived.ShutString
import Derived.ChangeOld
import Derived.Below
namespace Go.Proofs.YtfgcbdjkimkgpaaGreatDoor
set_option maxRecDepth 100000
open Go.ChangeShapes Go.WideShapes Go.ChangeAt Go.RowKit

theorem own : ownKnob Tryz.prog.godebug = none := by kernel_rfl
theorem laidOut : laidOutB Tryz.prog = true := by kernel_rfl
theorem mx_of {W : World} (h : W.ShapedOpen Tryz.prog) : MX W := Tryz.laysM138.s1_3 W h
def rangesZ : List Int := [128, 191, 160, 191, 128, 159, 144, 191, 128, 143, 0, 0, 0, 0, 0, 0, 0, 0, 0, 0, 0, 0, 0, 0, 0, 0, 0, 0, 0, 0, 0, 0]
def layIn (cs : Array Value) : Obj → Obj
  | .cells _ t frozen => .cells cs t frozen
  | o => o
/-- a world that holds the tables -/
noncomputable def laidWorld (os : Os) : World :=
  { World.holding Tryz.prog os ⟨#[], #[], []⟩ with heap := ((World.holding Tryz.prog os ⟨#[], #[], []⟩).heap.modify 1 (layIn (Go.Pinned.utf8FirstZ.map fun n : Nat => Value.int .u8 (n : Int)).toArray)).modify 2 (layIn (rangesZ.map (Value.int .u8)).toArray) }
end Go.Proofs.YtfgcbdjkimkgpaaGreatDoor
