/-
  Plain facts on lists of bits that are sorted by rank: one by one the least, and that a list has one sorted order; nothing of the program. No condition.
-/
import Derived.Test.YtejceacoopgjkaaFl
namespace Go.Proofs.Ytejceacoopgjkaa

/-- sorted by rank -/
def Asc (l : List Nat) : Prop := l.Pairwise fun a b => rank a ≤ rank b

theorem asc_unique : ∀ {l m : List Nat}, (∀ a ∈ l, a < 18446744073709551616) → Asc l → Asc m → l.Perm m → l = m
  | [], m, _, _, _, h => (List.Perm.nil_eq h)
  | a :: l, [], _, _, _, h => absurd h.length_eq (by simp)
  | a :: l, b :: m, hb, h1, h2, h => by
    have hl := List.pairwise_cons.1 h1
    have hm := List.pairwise_cons.1 h2
    have ba : rank b ≤ rank a := by
      rcases List.mem_cons.1 (h.subset (List.mem_cons_self)) with e | e
      · rw [e]; exact Nat.le_refl _
      · exact hm.1 a e
    have ab : rank a ≤ rank b := by
      rcases List.mem_cons.1 (h.symm.subset (List.mem_cons_self)) with e | e
      · rw [e]; exact Nat.le_refl _
      · exact hl.1 b e
    have e : a = b := rank_inj (hb a (List.mem_cons_self)) (hb b (h.symm.subset (List.mem_cons_self))) (by omega)
    subst e
    rw [asc_unique (fun x hx => hb x (List.mem_cons_of_mem _ hx)) hl.2 hm.2 h.cons_inv]

/-- the state of the reference's sort: what is out, what is left -/
def Sel (l0 out left : List Nat) : Prop := (out ++ left).Perm l0 ∧ Asc out ∧ ∀ a ∈ out, ∀ b ∈ left, rank a ≤ rank b
theorem sel_start (l0 : List Nat) : Sel l0 [] l0 := ⟨List.Perm.refl _, List.Pairwise.nil, fun _ h => by cases h⟩
theorem sel_step {l0 out left : List Nat} {k : Nat} (h : Sel l0 out left) (hk : k < left.length) (hmin : ∀ j, (hj : j < left.length) → rank left[k] ≤ rank left[j]) :
    Sel l0 (out ++ [left[k]]) (left.eraseIdx k) := by
  obtain ⟨h1, h2, h3⟩ := h
  have hp : (left[k] :: left.eraseIdx k).Perm left := by
    have e : left = left.take k ++ left[k] :: left.drop (k + 1) := by rw [← List.drop_eq_getElem_cons hk, List.take_append_drop]
    rw [List.eraseIdx_eq_take_drop_succ]
    exact (List.perm_middle.symm).trans (List.Perm.of_eq e.symm)
  refine ⟨?_, ?_, ?_⟩
  · refine List.Perm.trans ?_ h1
    rw [List.append_assoc]
    exact List.Perm.append_left _ hp
  · unfold Asc
    rw [List.pairwise_append]
    refine ⟨h2, List.pairwise_singleton _ _, fun a ha b hb => ?_⟩
    rw [List.mem_singleton] at hb
    subst hb
    exact h3 a ha _ (List.getElem_mem hk)
  · intro a ha b hb
    have hb' : b ∈ left := List.mem_of_mem_eraseIdx hb
    rcases List.mem_append.1 ha with h | h
    · exact h3 a h b hb'
    · rw [List.mem_singleton] at h
      subst h
      obtain ⟨j, hj, rfl⟩ := List.getElem_of_mem hb'
      exact hmin j hj
theorem sel_end {l0 out : List Nat} (h : Sel l0 out []) : out.Perm l0 ∧ Asc out := ⟨by simpa using h.1, h.2.1⟩
theorem sel_bound {l0 out left : List Nat} (h : Sel l0 out left) (hb : ∀ a ∈ l0, a < 18446744073709551616) : ∀ a ∈ left, a < 18446744073709551616 :=
  fun a ha => hb a (h.1.subset (List.mem_append_right _ ha))
theorem sel_length {l0 out left : List Nat} (h : Sel l0 out left) : out.length + left.length = l0.length := by rw [← List.length_append]; exact h.1.length_eq
theorem eraseIdx_split {α : Type} (l : List α) (k : Nat) : l.eraseIdx k = l.take k ++ l.drop (k + 1) := List.eraseIdx_eq_take_drop_succ l k
end Go.Proofs.Ytejceacoopgjkaa
