/-
  Package macro's usedFirst. Condition: the macros' strings have at most 2^32 bytes.
-/
import Derived.Test.YtihiohohocfchaaMBy
namespace Go.Proofs.Ytihiohohocfchaa
set_option maxRecDepth 100000
set_option linter.unusedVariables false
open Go.ChangeShapes Go.WideShapes Go.ChangeAt Go.RowKit

def lenOf : Value → Nat
  | .slice _ n _ => n
  | _ => 0
theorem two_new (w : World) (x y : Value) (t : TypeId) : ∀ j u, [x, y][j]? = some u → (w.alloc (.cells #[x, y] t)).cell? ((⟨w.heap.size, 0, none⟩ : Addr).add j) = some u := by
  intro j u h
  rw [add_off]
  have hh : (w.alloc (.cells #[x, y] t)).heap[w.heap.size]? = some (.cells #[x, y] t) := heap_alloc_new _ _
  unfold World.cell?
  rw [hh]
  match j, h with
  | 0, h => simpa using h
  | 1, h => simpa using h

end Go.Proofs.Ytihiohohocfchaa
