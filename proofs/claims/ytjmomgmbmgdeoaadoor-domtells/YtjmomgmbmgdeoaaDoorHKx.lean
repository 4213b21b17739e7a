/-
  The document's answer (package millwrightref) for knots: FoldedRows. No condition.
-/
import Derived.Test.YtjmomgmbmgdeoaaDoorHKr
import Derived.BigQuiet
namespace Go.Proofs.YtjmomgmbmgdeoaaDoor
set_option maxRecDepth 100000
set_option linter.unusedVariables false
open Go.ChangeShapes Go.WideShapes Go.ChangeAt Go.RowKit

/-- the first C of the numbers ns, in a block of their own behind b -/
def NB (a : Option Addr) (C : Nat) (ns : List Nat) (b : Nat) (W : World) : Prop := ∀ j, j < C → ∃ g, a = some ⟨g, 0, none⟩ ∧ b < g ∧ W.cell? ⟨g, j, none⟩ = some (.int .i64 ((iAt ns j : Nat) : Int))
theorem cell_lt {w : World} {g j : Nat} {x : Value} (h : w.cell? ⟨g, j, none⟩ = some x) : g < w.heap.size := by
  rcases Nat.lt_or_ge g w.heap.size with h' | h'
  · exact h'
  · unfold World.cell? at h; simp [Array.getElem?_eq_none h'] at h
theorem cell_at {w w' : World} {g j : Nat} (hb : w'.heap[g]? = w.heap[g]?) : w'.cell? ⟨g, j, none⟩ = w.cell? ⟨g, j, none⟩ := by
  unfold World.cell?; simp only [hb]
theorem NB.grown {a : Option Addr} {C b : Nat} {ns : List Nat} {W W' : World} (h : NB a C ns b W) (g : W.grownBy W' (some b)) : NB a C ns b W' := fun j hj => by
  obtain ⟨q, h1, h2, h3⟩ := h j hj
  exact ⟨q, h1, h2, (cell_at (g.block q (cell_lt h3) (fun e => by cases e; omega))).trans h3⟩
theorem nums_nb {s : Bv} {w w' : World} {e : Ending} {b : Nat} (h : NumsPost s w e w') (hb : b < w.heap.size) : ∃ a c, e = .returned (.slice a (cnt s) c) ∧ NB a (cnt s) (nums s) b w' ∧ Below w.heap.size w w' := by
  obtain ⟨v, rfl, h2, h3⟩ := h
  rw [← nums_length] at h2
  have o : NO w.heap.size v (nums s) w' := h2
  rcases o.2 with ⟨hv, h0⟩ | ⟨g, cap, cur, hv, hg, _⟩
  · rw [nums_length] at h0
    exact ⟨none, 0, by rw [hv, h0], fun j hj => by omega, h3⟩
  · subst hv
    refine ⟨_, cap, by rw [nums_length], fun j hj => ⟨g, rfl, by omega, NO.cell o (by rw [nums_length]; exact hj)⟩, h3⟩
end Go.Proofs.YtjmomgmbmgdeoaaDoor
