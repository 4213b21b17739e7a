/-
  Package reach: Back, Close, Between. Condition: the table of math/bits lies in memory as its text lays it (the card ties this).
-/
import Derived.Test.YtjmomgmbmgdeoaaDoorHRb
namespace Go.Proofs.YtjmomgmbmgdeoaaDoor
set_option maxRecDepth 100000
set_option linter.unusedVariables false
open Go.ChangeShapes Go.WideShapes Go.ChangeAt Go.RowKit

/-- what Back and Close hand back: a fault, or the rows x -/
def RowPost (r x : List Bv) (w : World) (e : Ending) (w' : World) : Prop := Below w.heap.size w w' ∧
  ((ckR r ≠ 0 ∧ e = .returned (.tuple #[.slice none 0 0, .int .i64 (ckR r)])) ∨
   (ckR r = 0 ∧ ∃ b, e = .returned (.tuple #[.slice (some ⟨b, 0, none⟩) r.length r.length, .int .i64 0]) ∧ WO w.heap.size (.slice (some ⟨b, 0, none⟩) r.length r.length) x w'))
theorem ret_vc {v : Value} {c d : Int} (k : c = d) : Ending.returned (.tuple #[v, .int .i64 c]) = .returned (.tuple #[v, .int .i64 d]) := by rw [k]
end Go.Proofs.YtjmomgmbmgdeoaaDoor
