/-
  The laws KnotOrder, KnotRing, whatever their arguments. Condition: the table of math/bits lies in memory as its text lays it (the card ties this).
-/
import Derived.Test.YtjmomgmbmgdeoaaDoorHKa
namespace Go.Proofs.YtjmomgmbmgdeoaaDoor
set_option maxRecDepth 100000
set_option linter.unusedVariables false
open Go.ChangeShapes Go.WideShapes Go.ChangeAt Go.RowKit

/-! KnotOrder -/
theorem ordd_at {r : List Bv} (hl : r.length ≤ 64) {l : List Nat} (h : Ordd r l) {j : Nat} (hj : j < l.length) :
    iAt l j < r.length ∧ (setL (l.take j)).getLsbD (iAt l j) = false ∧ wAt r (iAt l j) &&& ~~~setL (l.take j) = 0#64 ∧ setL (l.take (j + 1)) = setL (l.take j) ||| one (iAt l j) := by
  have hg := get_iAt hj
  have hn := h.lt _ (List.mem_of_getElem? hg)
  refine ⟨hn, ?_, le_iff.2 fun k hk => (setL_bit (bit_lt hk)).2 (h.bef j _ hg k hk), ?_⟩
  · cases hb : (setL (l.take j)).getLsbD (iAt l j)
    · rfl
    · obtain ⟨i, hi⟩ := List.mem_iff_getElem?.1 ((setL_bit (by omega)).1 hb)
      obtain ⟨h1, h2⟩ := take_get hi
      obtain ⟨q1, q2⟩ := List.getElem?_eq_some_iff.1 h2
      obtain ⟨q3, q4⟩ := List.getElem?_eq_some_iff.1 hg
      exact absurd (q2.trans q4.symm) (List.pairwise_iff_getElem.1 h.nd i j q1 q3 h1)
  · rw [List.take_add_one, hg]
    exact setL_snoc _ _
theorem both_beq {C D : Int} (h : C = 8 ↔ D = 0) : ((C == 8) == (D == 0)) = true := by
  rw [beq_iff_eq, Bool.eq_iff_iff, beq_iff_eq, beq_iff_eq]; exact h
/-! KnotRing -/
theorem NI.take {w : World} {a : Option Addr} {c : Nat} {l : List Nat} (h : NI w (.slice a l.length c) l) {i : Nat} (hi : i ≤ l.length) : NI w (.slice a i c) (l.take i) := by
  obtain ⟨a', c', e, h1, h2⟩ := h
  cases e
  have e : (l.take i).length = i := by rw [List.length_take]; omega
  refine ⟨a, c, by rw [e], by omega, fun k hk => ?_⟩
  rw [e] at hk
  obtain ⟨b, off, e2, c2⟩ := h2 k (by omega)
  refine ⟨b, off, e2, ?_⟩
  rw [c2]
  unfold iAt
  rw [List.getD, List.getD, List.getElem?_take, if_pos hk]
theorem ring_at {r : List Bv} {l : List Nat} (h : RingL r l) {i : Nat} (hi : i < l.length) : iAt l i < r.length ∧ iAt l ((i + 1) % l.length) < r.length ∧ (wAt r (iAt l i)).getLsbD (iAt l ((i + 1) % l.length)) = true ∧ iAt l i ∉ l.take i := by
  have hg := get_iAt hi
  have hm : (i + 1) % l.length < l.length := Nat.mod_lt _ h.pos
  have hg2 := get_iAt hm
  refine ⟨h.lt _ (List.mem_of_getElem? hg), h.lt _ (List.mem_of_getElem? hg2), h.nx i _ hg _ hg2, fun hx => ?_⟩
  obtain ⟨k, hk⟩ := List.mem_iff_getElem?.1 hx
  obtain ⟨h1, h2⟩ := take_get hk
  obtain ⟨q1, q2⟩ := List.getElem?_eq_some_iff.1 h2
  obtain ⟨q3, q4⟩ := List.getElem?_eq_some_iff.1 hg
  exact absurd (q2.trans q4.symm) (List.pairwise_iff_getElem.1 h.nd k i q1 q3 h1)
end Go.Proofs.YtjmomgmbmgdeoaaDoor
