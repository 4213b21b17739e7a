/-
  The shelf's contracts laid at this program, in plain words: that the library's functions stand in it as the shelf has them. No condition.
-/
import Derived.Shelf.Lay
import Derived.Shelf.LaySoft

import Derived.Test.YtpjcdfphllbonaaProg
namespace Go.Proofs
open Go.Shelf
shelf_tried
end Go.Proofs
