/-
  Edges in memory, handed in or of one's own; rows of sets of one's own; a graph in memory. No condition.
-/
import Derived.Test.YtpjcdfphllbonaaDoorMIn
import Derived.Test.YtpjcdfphllbonaaDoorIBl
import Derived.Test.YtpjcdfphllbonaaDoorGPt
namespace Go.Proofs.YtpjcdfphllbonaaDoor
set_option maxRecDepth 100000
set_option linter.unusedVariables false
open Go.ChangeShapes Go.WideShapes Go.ChangeAt Go.RowKit

/-- the cells of an edge -/
def encEd (x : Ed) : List Value := [.int .i64 x.1, .int .i64 x.2]
def edCells (z : List Ed) : List Value := z.flatMap encEd
theorem edCells_length (z : List Ed) : (edCells z).length = z.length * 2 := by
  induction z with
  | nil => rfl
  | cons x r ih => simp [edCells, encEd] at ih ⊢; omega
theorem edCells_snoc (z : List Ed) (x : Ed) : edCells (z ++ [x]) = edCells z ++ [.int .i64 x.1, .int .i64 x.2] := by simp [edCells, encEd]
theorem edCells_append (y z : List Ed) : edCells (y ++ z) = edCells y ++ edCells z := by simp [edCells]
theorem edCells_at : ∀ (z : List Ed) (k : Nat) (x : Ed), z[k]? = some x → (edCells z)[k * 2]? = some (.int .i64 x.1) ∧ (edCells z)[k * 2 + 1]? = some (.int .i64 x.2)
  | [], k, x, h => by simp at h
  | y :: t, 0, x, h => by
    simp at h
    subst h
    simp [edCells, encEd]
  | y :: t, k + 1, x, h => by
    have ih := edCells_at t k x (by simpa using h)
    have e : edCells (y :: t) = .int .i64 y.1 :: .int .i64 y.2 :: edCells t := by simp [edCells, encEd]
    rw [e, show (k + 1) * 2 = k * 2 + 1 + 1 by omega, show k * 2 + 1 + 1 + 1 = (k * 2 + 1) + 1 + 1 by omega]
    simpa using ih

/-- a slice that holds the edges z -/
def EIn (w : World) (v : Value) (z : List Ed) : Prop :=
  ∃ a cap, v = .slice a z.length cap ∧ z.length ≤ cap ∧ cap ≤ maxLen ∧ z.length ≤ 8796093022208 ∧
    (z = [] ∨ ∃ b off, a = some ⟨b, off, none⟩ ∧ b < w.heap.size ∧ ∀ k x, z[k]? = some x → w.cell? ⟨b, off + k * 2, none⟩ = some (.int .i64 x.1) ∧ w.cell? ⟨b, off + k * 2 + 1, none⟩ = some (.int .i64 x.2))
theorem EIn.later {w w' : World} {v : Value} {z : List Ed} (h : EIn w v z) (hb : Below w.heap.size w w') : EIn w' v z := by
  obtain ⟨a, cap, h1, h2, h3, h4, h5⟩ := h
  refine ⟨a, cap, h1, h2, h3, h4, ?_⟩
  rcases h5 with h5 | ⟨b, off, h5, h6, h7⟩
  · exact .inl h5
  · exact .inr ⟨b, off, h5, Nat.lt_of_lt_of_le h6 hb.size, fun k x hk => ⟨cell_later hb (h7 k x hk).1, cell_later hb (h7 k x hk).2⟩⟩
theorem EIn.bound {w : World} {v : Value} {z : List Ed} (h : EIn w v z) : z.length ≤ 8796093022208 := by obtain ⟨_, _, _, _, _, h3, _⟩ := h; exact h3
theorem EIn.shape {w : World} {v : Value} {z : List Ed} (h : EIn w v z) : ∃ a c, v = .slice a z.length c := by obtain ⟨a, c, h, _⟩ := h; exact ⟨a, c, h⟩
theorem EIn.open {w : World} {v : Value} {z : List Ed} (h : EIn w v z) : (z = [] ∧ ∃ a cap, v = .slice a 0 cap) ∨
    (0 < z.length ∧ ∃ b off cap, v = .slice (some ⟨b, off, none⟩) z.length cap ∧ z.length ≤ cap ∧ b < w.heap.size ∧ ∀ k x, z[k]? = some x → w.cell? ⟨b, off + k * 2, none⟩ = some (.int .i64 x.1) ∧ w.cell? ⟨b, off + k * 2 + 1, none⟩ = some (.int .i64 x.2)) := by
  obtain ⟨a, cap, rfl, h2, _, _, h5⟩ := h
  by_cases h0 : z = []
  · subst h0; exact .inl ⟨rfl, a, cap, rfl⟩
  · rcases h5 with h5 | ⟨b, off, rfl, h6, h7⟩
    · exact absurd h5 h0
    · exact .inr ⟨List.length_pos_iff.2 h0, b, off, cap, rfl, h2, h6, h7⟩
theorem EIn.own {w : World} {base : Nat} {v : Value} {z : List Ed} (h : w.ownsRow base 49 2 v z.length (edCells z)) (hn : z.length ≤ 8796093022208) : EIn w v z := by
  rcases h.2 with ⟨hv, h0⟩ | ⟨g, cap, cur, hv, hb, hg, hc, hm, hs, ht⟩
  · have : z = [] := List.length_eq_zero_iff.1 h0
    subst this
    exact ⟨none, 0, hv, Nat.le_refl _, Nat.zero_le _, Nat.zero_le _, .inl rfl⟩
  · refine ⟨_, cap, hv, hc, hm, hn, .inr ⟨g, 0, rfl, ?_, fun k x hk => ?_⟩⟩
    · rcases Nat.lt_or_ge g w.heap.size with h' | h'
      · exact h'
      · simp [Array.getElem?_eq_none h'] at hg
    · have hc := h.cells (g := g) (by rw [hv]; rfl)
      obtain ⟨h1, h2⟩ := edCells_at z k x hk
      have e1 := hc _ _ h1
      have e2 := hc _ _ h2
      rw [add_off] at e1 e2
      rw [Nat.zero_add]
      exact ⟨e1, e2⟩
theorem ein_nil (w : World) : EIn w (.slice none 0 0) [] := ⟨none, 0, rfl, Nat.le_refl _, Nat.zero_le _, Nat.zero_le _, .inl rfl⟩
theorem infoEd : (Tryd.prog.info? 49).map (fun i => (i.zero, i.size, i.bytes)) = some (some (.agg #[.int .i64 0, .int .i64 0]), 2, 16) := by kernel_rfl
def EO (B : Nat) (v : Value) (z : List Ed) (w : World) : Prop := w.ownsRow B 49 2 v z.length (edCells z)
theorem EO.snoc {B : Nat} {v : Value} {z : List Ed} {x : Ed} {w : World} (h : w.ownsRow B 49 2 v (z.length + 1) (edCells z ++ [.int .i64 x.1, .int .i64 x.2])) : EO B v (z ++ [x]) w := by
  unfold EO; rw [List.length_append, edCells_snoc]; exact h

/-! rows of sets -/
def encW (s : Bv) : Value := .int .u64 (s.toNat : Int)
theorem infoW : (Tryd.prog.info? 24).map (fun i => (i.zero, i.size, i.bytes)) = some (some (.int .u64 0), 1, 8) := by kernel_rfl
def WO (B : Nat) (v : Value) (r : List Bv) (w : World) : Prop := w.ownsRow B 24 1 v r.length (r.map encW)
theorem wAt_get {r : List Bv} {i : Nat} (h : i < r.length) : (r.map encW)[i]? = some (.int .u64 ((wAt r i).toNat : Int)) := by
  unfold wAt
  rw [List.getElem?_map, List.getD, List.getElem?_eq_getElem h]; rfl
theorem orAt_map (r : List Bv) (i : Nat) (s : Bv) : (orAt r i s).map encW = (r.map encW).set i (encW (wAt r i ||| s)) := by
  unfold orAt; rw [List.map_set]
theorem WO.cell {B : Nat} {g c : Nat} {r : List Bv} {w : World} (h : WO B (.slice (some ⟨g, 0, none⟩) r.length c) r w) {i : Nat} (hi : i < r.length) : w.cell? ⟨g, i, none⟩ = some (.int .u64 ((wAt r i).toNat : Int)) := by
  rw [World.ownsRow.cellAt h i (by omega)]
  exact wAt_get hi
theorem WO.frozen {B : Nat} {g c : Nat} {r : List Bv} {w : World} (h : WO B (.slice (some ⟨g, 0, none⟩) r.length c) r w) (i : Nat) : w.frozen? ⟨g, i, none⟩ = false := World.ownsRow.frozenAt h i
theorem WO.store {B : Nat} {g c : Nat} {r : List Bv} {w : World} (h : WO B (.slice (some ⟨g, 0, none⟩) r.length c) r w) (i : Nat) (s : Bv) :
    WO B (.slice (some ⟨g, 0, none⟩) r.length c) (orAt r i s) (w.setCell ⟨g, i, none⟩ (.int .u64 ((wAt r i ||| s).toNat : Int))) ∧ w.grownBy (w.setCell ⟨g, i, none⟩ (.int .u64 ((wAt r i ||| s).toNat : Int))) (some g) := by
  have := World.ownsRow.stored h i (encW (wAt r i ||| s))
  refine ⟨?_, this.2⟩
  unfold WO
  rw [orAt_map, orAt_length]
  exact this.1

/-- a graph in memory -/
def GIn (w : World) (v : Value) (g : Gr) : Prop := ∃ nv ev, v = .agg #[nv, ev, .int .u64 (g.ph.toNat : Int), .int .u64 (g.md.toNat : Int)] ∧ SIn w nv g.ns ∧ EIn w ev g.es
theorem GIn.later {w w' : World} {v : Value} {g : Gr} (h : GIn w v g) (hb : Below w.heap.size w w') : GIn w' v g := by
  obtain ⟨nv, ev, h1, h2, h3⟩ := h
  exact ⟨nv, ev, h1, h2.later hb, h3.later hb⟩
end Go.Proofs.YtpjcdfphllbonaaDoor
