/-
  Plain facts on the reference's way to join lines. No condition.
-/
import Derived.Test.YtfgcbdjkimkgpaaGreatDoorLRd
namespace Go.Proofs.YtfgcbdjkimkgpaaGreatDoor
set_option maxRecDepth 100000

theorem last_cons (x : Str) (L : List Str) (h : L ≠ []) : (x :: L).getLast? = L.getLast? ∧ (x :: L).dropLast = x :: L.dropLast := by
  obtain ⟨y, t, rfl⟩ := List.exists_cons_of_ne_nil h
  exact ⟨List.getLast?_cons_cons, rfl⟩
theorem phys_cutNL : ∀ s : Str, phys s = if (cutNL s).getLast? = some [] then (cutNL s).dropLast else cutNL s
  | [] => by simp [phys, cutNL]
  | c :: r => by
    have ih := phys_cutNL r
    have hne := cutNL_ne r
    rw [phys, cutNL]
    by_cases h : c = 10
    · rw [if_pos h, if_pos h]
      obtain ⟨e1, e2⟩ := last_cons [] (cutNL r) hne
      rw [e1, e2, ih]
      split <;> rfl
    · rw [if_neg h, if_neg h]
      obtain ⟨y, t, e⟩ := List.exists_cons_of_ne_nil hne
      rw [e] at ih ⊢
      rw [ih]
      dsimp only
      by_cases ht : t = []
      · subst ht
        by_cases hy : y = []
        · subst hy; simp
        · simp [hy]
      · obtain ⟨e1, e2⟩ := last_cons y t ht
        obtain ⟨e3, e4⟩ := last_cons (c :: y) t ht
        rw [e1, e2, e3, e4]
        by_cases k : t.getLast? = some []
        · rw [if_pos k, if_pos k]
        · rw [if_neg k, if_neg k]
theorem phys_of_cut {s : Str} {dl : List Str} {x : Str} (h : cutNL s = dl ++ [x]) : phys s = if x = [] then dl else dl ++ [x] := by
  rw [phys_cutNL, h, List.getLast?_concat, List.dropLast_concat]
  by_cases hx : x = [] <;> simp [hx]
theorem cut_last (s : Str) : ∃ dl x, cutNL s = dl ++ [x] := by
  rcases List.eq_nil_or_concat (cutNL s) with h | ⟨dl, x, h⟩
  · exact absurd h (cutNL_ne s)
  · exact ⟨dl, x, by rw [h, List.concat_eq_append]⟩

/-- line k -/
def lk (L : List Str) (k : Nat) : Str := L.getD k []
/-- what is still to be joined to the text t by the lines R -/
def fin (t : Str) (R : List Str) : Str × Nat := if ends92 t then (t.dropLast ++ (joinT R).1, (joinT R).2 + 1) else (t, 1)
theorem fin_start {L : List Str} {p : Nat} (h : p < L.length) : joinH (L.drop p) = fin (lk L p) (L.drop (p + 1)) := by
  have e : lk L p = L[p] := by unfold lk; rw [List.getD, List.getElem?_eq_getElem h]; rfl
  rw [List.drop_eq_getElem_cons h, joinH, e]; rfl
theorem ends_sp (u y : Str) : ends92 (u ++ 32 :: y) = ends92 y := by
  unfold ends92
  rcases List.eq_nil_or_concat y with rfl | ⟨q, c, rfl⟩
  · rw [List.getLast?_concat]; rfl
  · rw [List.concat_eq_append, ← List.cons_append, ← List.append_assoc, List.getLast?_concat, List.getLast?_concat]
theorem fin_stop {t : Str} {R : List Str} (h : ends92 t = false) : fin t R = (t, 1) := by unfold fin; rw [h]; rfl
theorem fin_last {t : Str} (h : ends92 t = true) : fin t [] = (t.dropLast, 1) := by unfold fin; rw [h]; simp [joinT]
theorem fin_next {L : List Str} {q : Nat} {t : Str} (h : q + 1 < L.length) (he : ends92 t = true) :
    fin t (L.drop (q + 1)) = ((fin (t.dropLast ++ 32 :: triml (lk L (q + 1))) (L.drop (q + 1 + 1))).1, (fin (t.dropLast ++ 32 :: triml (lk L (q + 1))) (L.drop (q + 1 + 1))).2 + 1) := by
  have e : lk L (q + 1) = L[q + 1] := by unfold lk; rw [List.getD, List.getElem?_eq_getElem h]; rfl
  rw [List.drop_eq_getElem_cons h, e]
  generalize L[q + 1] = x
  generalize L.drop (q + 1 + 1) = R
  unfold fin
  rw [he, if_pos rfl, joinT, ends_sp]
  cases hx : ends92 (triml x) with
  | true =>
    have hne : triml x ≠ [] := by intro k; rw [k] at hx; simp [ends92] at hx
    have : (t.dropLast ++ 32 :: triml x).dropLast = t.dropLast ++ 32 :: (triml x).dropLast := by
      rw [List.dropLast_append_of_ne_nil (by simp)]
      obtain ⟨c, r, e⟩ := List.exists_cons_of_ne_nil hne
      rw [e]; rfl
    simp [this]
  | false => simp
theorem fin_len (t : Str) (R : List Str) : t.length ≤ (fin t R).1.length + 1 := by
  unfold fin
  split
  · simp; omega
  · simp
theorem eq92' (c : UInt8) : ((c.toNat : Int) == 92) = decide (c = 92) := by
  rw [Bool.eq_iff_iff, beq_iff_eq, decide_eq_true_iff]
  exact ⟨fun h => UInt8.toNat_inj.1 (by show c.toNat = 92; omega), fun h => by rw [h]; rfl⟩
theorem ends_snoc (r : Str) (c : UInt8) : ends92 (r ++ [c]) = decide (c = 92) := by
  unfold ends92
  rw [List.getLast?_concat]
  by_cases h : c = 92 <;> simp [h]
end Go.Proofs.YtfgcbdjkimkgpaaGreatDoor
