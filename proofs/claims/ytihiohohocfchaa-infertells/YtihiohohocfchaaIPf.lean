/-
  Plain facts of what Fill answers: each rule has one target, they rise, needs that were there stay, what is new is inferred. No condition.
-/
import Derived.Test.YtihiohohocfchaaIFi
namespace Go.Proofs.Ytihiohohocfchaa
set_option maxRecDepth 100000
set_option linter.unusedVariables false
open Go.ChangeShapes Go.WideShapes Go.ChangeAt Go.RowKit

theorem inf1_from : ∀ {I : List Mc} {K : List Str} {st sf n : Str}, inf1 I K st sf = some n → ∃ a, (a, sf) ∈ I ∧ n = st ++ a
  | [], _, _, _, _, h => by cases h
  | y :: r, K, st, sf, n, h => by
    rw [inf1] at h
    split at h
    · rename_i hc
      injection h with h
      refine ⟨y.1, ?_, h.symm⟩
      rw [← hc.1]
      exact List.mem_cons_self
    · obtain ⟨a, h1, h2⟩ := inf1_from h
      exact ⟨a, List.mem_cons_of_mem _ h1, h2⟩
/-- what a rule of Fill's is -/
def FRule (l : List Rl) (I : List Mc) (s : Str) (n : List Str) : Prop :=
  (needsR l s ≠ [] ∧ n = needsR l s) ∨ (needsR l s = [] ∧ n = []) ∨ (needsR l s = [] ∧ ∃ a, (a, sfx s) ∈ I ∧ n = [stm s ++ a])
theorem one_rule {l : List Rl} {I : List Mc} {K : List Str} {s : Str} {r : Rl} (h : fillOne l I K s = some r) : r.1 = [s] ∧ FRule l I s r.2 := by
  unfold fillOne at h
  split at h
  · rename_i h0
    split at h
    · rename_i n hn
      injection h with h
      subst h
      obtain ⟨a, h1, h2⟩ := inf1_from hn
      exact ⟨rfl, .inr (.inr ⟨h0, a, h1, by rw [h2]⟩)⟩
    · split at h
      · injection h with h
        subst h
        exact ⟨rfl, .inr (.inl ⟨h0, rfl⟩)⟩
      · cases h
  · rename_i h0
    injection h with h
    subst h
    exact ⟨rfl, .inl ⟨h0, rfl⟩⟩
theorem fill_rule {l z : List Rl} {I : List Mc} {T : List Str} {k : Nat} (hk : k < (fillL l z I T).length) : ∃ s, s ∈ uniq (namesJ z) ∧ tg (fillL l z I T) k = [s] ∧ FRule l I s (nd (fillL l z I T) k) := by
  have hm := rl_mem hk
  unfold fillL at hm
  obtain ⟨s, hs, h⟩ := List.mem_filterMap.1 hm
  obtain ⟨h1, h2⟩ := one_rule h
  exact ⟨s, hs, h1, h2⟩
theorem hd_at {z : List Rl} {k : Nat} (h : k < z.length) : hd z k = (z[k]'h).1.getD 0 [] := by
  have e : z.getD k ([], []) = z[k] := by rw [List.getD, List.getElem?_eq_getElem h]; rfl
  unfold hd tg
  rw [e]
theorem fill_up {l z : List Rl} {I : List Mc} {T : List Str} {k : Nat} (hk : k + 1 < (fillL l z I T).length) : hd (fillL l z I T) k < hd (fillL l z I T) (k + 1) := by
  have hp : (fillL l z I T).Pairwise fun a b => a.1.getD 0 [] < b.1.getD 0 [] := by
    unfold fillL
    refine List.Pairwise.filterMap _ (fun a a' h b hb b' hb' => ?_) (uniq_up (namesJ z))
    rw [(one_rule hb).1, (one_rule hb').1]
    exact h
  rw [hd_at (by omega), hd_at hk]
  exact (List.pairwise_iff_getElem.1 hp) k (k + 1) (by omega) hk (by omega)
theorem fill_has {l z : List Rl} (hj : Joined l z) {I : List Mc} {T : List Str} {t : Str} (ht : t ∈ uniq (allT l)) : (fillL l z I T).any (fun r => decide (r.1.getD 0 [] = t)) = true := by
  have hU : t ∈ uniq (namesJ z) := by
    refine uniq_mem.2 ?_
    unfold namesJ
    rw [hj.eq]
    exact List.mem_flatMap.2 ⟨oneR l t, List.mem_map.2 ⟨t, ht, rfl⟩, List.mem_append_left _ (List.mem_singleton.2 rfl)⟩
  have hs : ∀ K, ∃ r, fillOne l I K t = some r := fun K => by
    by_cases h0 : needsR l t = []
    · cases h1 : inf1 I K (stm t) (sfx t) with
      | some n => exact ⟨_, one_inf h0 h1⟩
      | none => exact ⟨_, one_made h0 h1 ht⟩
    · exact ⟨_, one_needs h0⟩
  obtain ⟨r, hr⟩ := hs (uniq (uniq (namesJ z) ++ T))
  rw [List.any_eq_true]
  refine ⟨r, ?_, ?_⟩
  · unfold fillL
    exact List.mem_filterMap.2 ⟨t, hU, hr⟩
  · rw [(one_rule hr).1]
    exact decide_eq_true rfl
/-- the joined rules' targets are Fill's targets -/
theorem was_has {l z : List Rl} (hj : Joined l z) {I : List Mc} {T : List Str} : (z.any fun x => !((fillL l z I T).any fun r => decide (r.1.getD 0 [] = x.1.getD 0 []))) = false := by
  rw [List.any_eq_false]
  intro x hx
  have hx' := hx
  rw [hj.eq] at hx'
  obtain ⟨t, ht, rfl⟩ := List.mem_map.1 hx'
  have : (oneR l t).1.getD 0 [] = t := rfl
  rw [this, fill_has hj ht]
  simp
theorem fillR_bad {l z : List Rl} {x : Int} {I : List Mc} {T : List Str} (h : (fillR l z x I T).2 ≠ 0) : (fillR l z x I T).1 = [] := by
  unfold fillR at h ⊢
  split
  · rfl
  · split
    · rfl
    · split
      · rfl
      · split
        · rfl
        · rename_i h1 h2 h3 h4
          rw [if_neg h1, if_neg h2, if_neg h3, if_neg h4] at h
          exact absurd rfl h
theorem fillR_zero {l z : List Rl} {x : Int} {I : List Mc} {T : List Str} (h : (fillR l z x I T).2 = 0) : x = 0 ∧ infE I = 0 ∧ T.all good = true ∧ fillR l z x I T = (fillL l z I T, 0) := by
  unfold fillR at h ⊢
  split at h
  · rename_i h1; exact absurd h h1
  · split at h
    · rename_i h1; exact absurd h h1
    · split at h
      · cases h
      · split at h
        · cases h
        · rename_i h1 h2 h3 h4
          rw [if_neg h1, if_neg h2, if_neg h3, if_neg h4]
          exact ⟨by simpa using h1, by simpa using h2, by simpa using h3, rfl⟩
end Go.Proofs.Ytihiohohocfchaa
