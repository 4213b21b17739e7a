/-
  Four stores into a block. No condition.
-/
import Derived.Test.YtfgcbdjkimkgpaaGreatDoorFLr
namespace Go.Proofs.YtfgcbdjkimkgpaaGreatDoor
set_option maxRecDepth 100000
open Go.ChangeShapes Go.WideShapes Go.ChangeAt Go.RowKit
end Go.Proofs.YtfgcbdjkimkgpaaGreatDoor
