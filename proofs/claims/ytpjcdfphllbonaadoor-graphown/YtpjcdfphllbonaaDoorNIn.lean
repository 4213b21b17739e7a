/-
  Slices of strings: what they hold, how they are opened. Condition: a slice takes at most 2^47 bytes (the form says so).
-/
import Derived.Test.YtpjcdfphllbonaaDoorMIn
import Derived.Test.YtpjcdfphllbonaaDoorShelf
import Derived.Test.YtpjcdfphllbonaaDoorNm
import Derived.Test.YtpjcdfphllbonaaDoorLs
import Derived.Test.YtpjcdfphllbonaaDoorLaysN
import Derived.SizedLaws
import Derived.SliceStrings
import Derived.Deep.Slices
import Derived.OwnWalk
import Derived.Deep.AppendLies
import Derived.Laws.OwnMore
import Derived.Shelf.Abstract
import Derived.WalkSpells
import Derived.Lib.OwnBridge
import Derived.Lib.AppendIntMem
import Derived.Sort.Walk0
namespace Go.Proofs.YtpjcdfphllbonaaDoor
set_option maxRecDepth 100000
open Go.ChangeShapes Go.WideShapes Go.ChangeAt Go.RowKit

end Go.Proofs.YtpjcdfphllbonaaDoor
