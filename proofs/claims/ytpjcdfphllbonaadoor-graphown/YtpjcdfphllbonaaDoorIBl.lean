/-
  Blocks of cells; small facts that more than one text wants. No condition.
-/
import Derived.Test.YtpjcdfphllbonaaDoorNFind
namespace Go.Proofs.YtpjcdfphllbonaaDoor
set_option maxRecDepth 100000
set_option linter.unusedVariables false
open Go.ChangeShapes Go.WideShapes Go.ChangeAt Go.RowKit

/-- block k holds the cells xs -/
def Blk (k : Nat) (xs : Array Value) (t : TypeId) (w : World) : Prop := w.heap[k]? = some (.cells xs t (0, 0))
theorem Blk.lt {k : Nat} {xs : Array Value} {t : TypeId} {w : World} (h : Blk k xs t w) : k < w.heap.size := by
  rcases Nat.lt_or_ge k w.heap.size with h' | h'
  · exact h'
  · unfold Blk at h; simp [Array.getElem?_eq_none h'] at h
theorem Blk.cell {k : Nat} {xs : Array Value} {t : TypeId} {w : World} (h : Blk k xs t w) {i : Nat} {x : Value} (hi : xs[i]? = some x) : w.cell? ⟨k, i, none⟩ = some x := by
  unfold Blk at h
  unfold World.cell?
  simp [h, hi]
theorem Blk.free {k : Nat} {xs : Array Value} {t : TypeId} {w : World} (h : Blk k xs t w) (i : Nat) : w.frozen? ⟨k, i, none⟩ = false := by
  unfold Blk at h
  unfold World.frozen?
  simp [h]
theorem Blk.at {k : Nat} {xs : Array Value} {t : TypeId} {w w' : World} (h : Blk k xs t w) (hb : w'.heap[k]? = w.heap[k]?) : Blk k xs t w' := hb.trans h
theorem Blk.later {k : Nat} {xs : Array Value} {t : TypeId} {w w' : World} (h : Blk k xs t w) (hb : Below w.heap.size w w') : Blk k xs t w' := h.at (hb.block _ h.lt)
theorem blk_new (w : World) (xs : Array Value) (t : TypeId) : Blk w.heap.size xs t (w.alloc (.cells xs t)) := by unfold Blk; exact heap_alloc_new _ _
theorem Blk.alloc {k : Nat} {xs : Array Value} {t : TypeId} {w : World} (h : Blk k xs t w) (o : Obj) : Blk k xs t (w.alloc o) := h.at (Below.heap_alloc _ _ _ h.lt)
theorem Blk.other {k : Nat} {xs : Array Value} {t : TypeId} {w : World} (h : Blk k xs t w) {a : Addr} (ha : k ≠ a.block) (u : Value) : Blk k xs t (w.setCell a u) := h.at (Below.heap_setCell _ _ _ _ ha)
theorem Blk.set {k : Nat} {xs : Array Value} {t : TypeId} {w : World} (h : Blk k xs t w) (i : Nat) (u : Value) : Blk k (xs.setIfInBounds i u) t (w.setCell ⟨k, i, none⟩ u) := by
  unfold Blk at h ⊢
  have hk := Blk.lt h
  unfold World.setCell
  rw [Array.getElem?_modify]
  simp [h]
theorem blk_grown {k : Nat} {xs : Array Value} {t : TypeId} {w w' : World} {row : Option Nat} (h : Blk k xs t w) (g : w.grownBy w' row) (hr : ∀ q, row = some q → q < k) : Blk k xs t w' :=
  h.at (g.block k h.lt (fun e => by have := hr k e.symm; omega))
theorem below_drewN {B : Nat} {a w : World} (h : Below B a w) (n : Nat) : Below B a (w.drewN n) := ⟨h.os, h.tape, h.output, h.size, h.block⟩
theorem sin_nil (w : World) : SIn w (.slice none 0 0) [] := ⟨none, 0, rfl, Nat.le_refl _, Nat.zero_le _, fun x hx => absurd hx List.not_mem_nil, .inl rfl⟩
end Go.Proofs.YtpjcdfphllbonaaDoor
