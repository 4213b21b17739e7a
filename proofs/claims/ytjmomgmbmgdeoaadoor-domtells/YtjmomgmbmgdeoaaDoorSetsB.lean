/-
  The law's own look at package bits (sets) is passed, and the table of math/bits stays in memory. Condition: the table lies there as its text lays it (the card ties this).
-/
import Derived.Test.YtjmomgmbmgdeoaaDoorRank
namespace Go.Proofs.YtjmomgmbmgdeoaaDoor
set_option maxRecDepth 100000
open Go.ChangeShapes Go.WideShapes Go.ChangeAt Go.RowKit

end Go.Proofs.YtjmomgmbmgdeoaaDoor
