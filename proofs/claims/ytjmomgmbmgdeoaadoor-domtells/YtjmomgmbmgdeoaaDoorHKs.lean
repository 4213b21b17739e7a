/-
  The rows folded, cell by cell, and what is tied to a number, bit by bit. No condition.
-/
import Derived.Test.YtjmomgmbmgdeoaaDoorHKq
namespace Go.Proofs.YtjmomgmbmgdeoaaDoor
set_option maxRecDepth 100000
set_option linter.unusedVariables false

theorem tied_get {r : List Bv} (hr : RowsIn r) {n k : Nat} (hn : n < r.length) (hk : k < r.length) : (tied r n).getLsbD k = ((allR r (one n)).getLsbD k && (allR r (one k)).getLsbD n) := by
  rw [Bool.eq_iff_iff, tied_bit hr hn, Bool.and_eq_true, all_one hr hn, all_one hr hk]
  exact Iff.rfl
theorem tied_set {r : List Bv} (hr : RowsIn r) {n : Nat} (hn : n < r.length) : setTo (fun k => (tied r n).getLsbD k) r.length = tied r n :=
  bv_ext fun k hk => by
    rw [Bool.eq_iff_iff, setTo_bit _ hk]
    exact ⟨fun h => h.2, fun h => ⟨tied_lt hr hn h, h⟩⟩

/-! folded -/
/-- whether the folded row i has k -/
def fT (r p : List Bv) (i k : Nat) : Bool := decide (i ≠ k) && meets r p i k
theorem fold_test {r : List Bv} (hr : RowsIn r) {i k : Nat} (hi : i < (partsR r).length) (hk : k < (partsR r).length) :
    decide ((needR r (wAt (partsR r) i) &&& ~~~wAt (partsR r) i) &&& wAt (partsR r) k ≠ 0#64) = fT r (partsR r) i k := by
  unfold fT
  rw [Bool.eq_iff_iff, Bool.and_eq_true, decide_eq_true_iff, decide_eq_true_iff, nonzero_iff, meets_iff]
  constructor
  · rintro ⟨m, hm⟩
    obtain ⟨h1, h2⟩ := and_bit.1 hm
    obtain ⟨h3, h4⟩ := and_bit.1 h1
    obtain ⟨n, h5, h6⟩ := needR_bit.1 h3
    have h4' := (not_bit (bit_lt h2)).1 h4
    refine ⟨fun e => ?_, n, m, h5, h6, h2⟩
    rw [e, h2] at h4'; cases h4'
  · rintro ⟨hne, n, m, h1, h2, h3⟩
    refine ⟨m, and_bit.2 ⟨and_bit.2 ⟨needR_bit.2 ⟨n, h1, h2⟩, (not_bit (bit_lt h2)).2 ?_⟩, h3⟩⟩
    cases hb : (wAt (partsR r) i).getLsbD m
    · rfl
    · exact absurd ((part_mu hr hi hk hb h3).1 (Mu.refl r m)) hne
def foAt (r p : List Bv) (i k : Nat) (b : Bool) : Bv := if b then setTo (fT r p i) k ||| one k else setTo (fT r p i) k
theorem foAt_next {r p : List Bv} {i k : Nat} : foAt r p i k (fT r p i k) = foAt r p i (k + 1) false := by
  unfold foAt
  cases h : fT r p i k
  · rw [if_neg (by simp), if_neg (by simp)]
    show _ = (if fT r p i k then _ else _)
    rw [h, if_neg (by simp)]
  · rw [if_pos rfl, if_neg (by simp)]
    show _ = (if fT r p i k then _ else _)
    rw [h, if_pos rfl]
/-- folded as far as row i, in row i as far as k, and k too if b -/
def Fo (r p : List Bv) (i k : Nat) (b : Bool) (O : List Bv) : Prop := O.length = p.length ∧ ∀ a, a < p.length → wAt O a = if a < i then foldRow r p a else if a = i then foAt r p i k b else 0#64
theorem fo_zero (r p : List Bv) : Fo r p 0 0 false (List.replicate p.length 0#64) := ⟨List.length_replicate, fun a ha => by
  rw [wAt_replicate, if_neg (Nat.not_lt_zero a)]
  split
  · rfl
  · rfl⟩
theorem fo_row {r p O : List Bv} {i : Nat} (h : Fo r p i p.length false O) : Fo r p (i + 1) 0 false O := ⟨h.1, fun a ha => by
  rw [h.2 a ha]
  rcases Nat.lt_trichotomy a i with h' | h' | h'
  · rw [if_pos h', if_pos (by omega)]
  · subst h'
    rw [if_neg (Nat.lt_irrefl _), if_pos rfl, if_pos (Nat.lt_succ_self _)]; rfl
  · rw [if_neg (by omega), if_neg (by omega), if_neg (by omega)]
    split
    · rfl
    · rfl⟩
theorem fo_next {r p O : List Bv} {i k : Nat} {b : Bool} (h : Fo r p i k b O) (hb : b = fT r p i k) : Fo r p i (k + 1) false O := ⟨h.1, fun a ha => by
  rw [h.2 a ha, hb, foAt_next]⟩
theorem fo_yes {r p O : List Bv} {i k : Nat} {b : Bool} (h : Fo r p i k b O) (hi : i < p.length) : Fo r p i k true (orAt O i (one k)) := ⟨by rw [orAt_length, h.1], fun a ha => by
  rw [wAt_orAt _ _ _ _ (by rw [h.1]; exact hi)]
  by_cases e : a = i
  · subst e
    rw [if_pos rfl, h.2 a ha, if_neg (Nat.lt_irrefl _), if_pos rfl, if_neg (Nat.lt_irrefl _), if_pos rfl]
    unfold foAt
    cases b
    · rw [if_neg (by simp), if_pos rfl]
    · rw [if_pos rfl]
      refine bv_ext fun i hi => ?_
      simp only [BitVec.getLsbD_or, Bool.or_assoc, Bool.or_self]
  · rw [if_neg e, h.2 a ha, if_neg e, if_neg e]⟩
theorem fo_all {r p O : List Bv} (h : Fo r p p.length 0 false O) : O = foldP r p := by
  refine rows_same (by rw [h.1, foldP_length]) fun i hi k hk => ?_
  rw [h.1] at hi
  rw [h.2 i hi, if_pos hi, foldP_at hi]
/-- what the reference's innermost loop has found -/
def anyTo (r p : List Bv) (i k j : Nat) : Bool := decide (i ≠ k) && ((nums (wAt p i)).take j).any fun n => decide (wAt r n &&& wAt p k ≠ 0#64)
theorem any_zero (r p : List Bv) (i k : Nat) : anyTo r p i k 0 = false := by unfold anyTo; simp
theorem any_next {r p : List Bv} {i k j n : Nat} (h : (nums (wAt p i))[j]? = some n) : anyTo r p i k (j + 1) = (anyTo r p i k j || (decide (i ≠ k) && decide (wAt r n &&& wAt p k ≠ 0#64))) := by
  unfold anyTo
  rw [List.take_add_one, h, List.any_append]
  simp only [Option.toList_some, List.any_cons, List.any_nil, Bool.or_false]
  cases decide (i ≠ k) <;> simp
theorem any_all (r p : List Bv) (i k : Nat) : anyTo r p i k (cnt (wAt p i)) = fT r p i k := by
  unfold anyTo fT
  rw [List.take_of_length_le (by rw [nums_length]; exact Nat.le_refl _)]
  congr 1
  rw [Bool.eq_iff_iff, List.any_eq_true, meets_iff]
  constructor
  · rintro ⟨n, h1, h2⟩
    obtain ⟨m, hm⟩ := nonzero_iff.1 (of_decide_eq_true h2)
    obtain ⟨h3, h4⟩ := and_bit.1 hm
    exact ⟨n, m, (nums_mem.1 h1).2, h3, h4⟩
  · rintro ⟨n, m, h1, h2, h3⟩
    exact ⟨n, nums_mem.2 ⟨bit_lt h1, h1⟩, decide_eq_true (nonzero_iff.2 ⟨m, and_bit.2 ⟨h2, h3⟩⟩)⟩
end Go.Proofs.YtjmomgmbmgdeoaaDoor
