/-
  The reference's RulesFilled. Condition: the names handed in are at most 2^43.
-/
import Derived.Test.YtihiohohocfchaaIRs
import Derived.Deep.RegionLaw
namespace Go.Proofs.Ytihiohohocfchaa
set_option maxRecDepth 100000
set_option linter.unusedVariables false
open Go.ChangeShapes Go.WideShapes Go.ChangeAt Go.RowKit

/-! the needs of joined rules -/
theorem addAll_nodup : ∀ (l acc : List Str), (acc ++ l).Nodup → addAll acc l = acc ++ l
  | [], acc, _ => by rw [List.append_nil]; rfl
  | x :: r, acc, h => by
    have hx : x ∉ acc := fun hm => by
      rw [List.nodup_append] at h
      exact h.2.2 x hm x List.mem_cons_self rfl
    have e : addAll acc (x :: r) = addAll (addN acc x) r := rfl
    have e2 : addN acc x = acc ++ [x] := by unfold addN; rw [if_neg hx]
    rw [e, e2, addAll_nodup r (acc ++ [x]) (by rw [List.append_assoc]; exact h), List.append_assoc]; rfl
theorem addN_nodup {acc : List Str} (x : Str) (h : acc.Nodup) : (addN acc x).Nodup := by
  unfold addN
  split
  · exact h
  · rename_i hx
    rw [List.nodup_append]
    exact ⟨h, by simp, fun a ha b hb e => by rw [List.mem_singleton] at hb; subst hb; subst e; exact hx ha⟩
theorem addAll_keeps : ∀ (l acc : List Str), acc.Nodup → (addAll acc l).Nodup
  | [], _, h => h
  | x :: r, acc, h => addAll_keeps r (addN acc x) (addN_nodup x h)
theorem needs_nodup (l : List Rl) (t : Str) : (needsR l t).Nodup := by
  unfold needsR
  have key : ∀ (l : List Rl) (acc : List Str), acc.Nodup → (l.foldl (needStep t) acc).Nodup := fun l => by
    induction l with
    | nil => intro acc h; exact h
    | cons r q ih =>
      intro acc h
      refine ih _ ?_
      unfold needStep
      split
      · exact addAll_keeps _ _ h
      · exact h
  exact key l [] List.nodup_nil
theorem needs_joined {l z : List Rl} (hj : Joined l z) (s : Str) : needsR z s = needsR l s := by
  have hh : ∀ k, k < z.length → hd z k = (uniq (allT l)).getD k [] := fun k hk => by unfold hd; rw [hj.tg hk]; rfl
  have ht : ∀ k, k < z.length → tg z k = [hd z k] := fun k hk => by rw [hh k hk]; exact hj.tg hk
  have hn : ∀ k, k < z.length → nd z k = needsR l (hd z k) := fun k hk => by rw [hh k hk]; exact hj.nd hk
  have key : ∀ k, k ≤ z.length → ((∀ j, j < k → hd z j ≠ s) ∧ needsR (z.take k) s = []) ∨ ((∃ j, j < k ∧ hd z j = s) ∧ needsR (z.take k) s = needsR l s) := fun k => by
    induction k with
    | zero => intro _; exact .inl ⟨fun j hj => absurd hj (Nat.not_lt_zero _), rfl⟩
    | succ k ih =>
      intro hk
      rw [needs_take (by omega), ht k (by omega), hn k (by omega)]
      unfold needStep
      by_cases hs : s = hd z k
      · rw [if_pos (by rw [hs]; exact List.mem_singleton.2 rfl)]
        right
        refine ⟨⟨k, by omega, hs.symm⟩, ?_⟩
        rcases ih (by omega) with ⟨_, e⟩ | ⟨⟨j, hj1, hj2⟩, _⟩
        · rw [e, ← hs, addAll_nodup _ _ (by simpa using needs_nodup l s)]; rfl
        · exfalso
          have h1 := hh j (by omega)
          have h2 := hh k (by omega)
          have : j = k := up_inj (uniq_up (allT l)) (by rw [← hj.len]; omega) (by rw [← hj.len]; omega) (by rw [← h1, ← h2, hj2, hs])
          omega
      · rw [if_neg (by rw [List.mem_singleton]; exact hs)]
        rcases ih (by omega) with ⟨h1, e⟩ | ⟨⟨j, hj1, hj2⟩, e⟩
        · refine .inl ⟨fun j hj => ?_, e⟩
          rcases Nat.lt_succ_iff_lt_or_eq.1 hj with h | rfl
          · exact h1 j h
          · exact fun h => hs h.symm
        · exact .inr ⟨⟨j, by omega, hj2⟩, e⟩
  have hf := key z.length (Nat.le_refl _)
  rw [List.take_length] at hf
  rcases hf with ⟨h1, e⟩ | ⟨_, e⟩
  · rw [e]
    refine (needs_target fun hm => ?_).symm
    obtain ⟨k, hk, ek⟩ := mem_getD hm
    have hk' : k < z.length := by rw [hj.len]; exact hk
    exact h1 k hk' (by rw [hh k hk', ek])
  · exact e
/-- is it a target of the first rules -/
def isT (z : List Rl) (k : Nat) (s : Str) : Bool := (z.take k).any fun r => decide (r.1.getD 0 [] = s)
theorem isT_step {z : List Rl} {k : Nat} (h : k < z.length) (s : Str) : isT z (k + 1) s = (isT z k s || decide (hd z k = s)) := by
  unfold isT
  rw [rl_take h, List.any_append]
  simp only [List.any_cons, List.any_nil, Bool.or_false]
  rfl
theorem isT_all {l z : List Rl} (hj : Joined l z) (s : Str) : isT z z.length s = decide (s ∈ uniq (allT l)) := by
  unfold isT
  rw [List.take_length, Bool.eq_iff_iff, decide_eq_true_iff, List.any_eq_true]
  constructor
  · rintro ⟨r, hr, h⟩
    rw [hj.eq] at hr
    obtain ⟨t, ht, rfl⟩ := List.mem_map.1 hr
    have e : t = s := by simpa [oneR] using h
    rw [← e]; exact ht
  · intro h
    exact ⟨oneR l s, by rw [hj.eq]; exact List.mem_map.2 ⟨s, h, rfl⟩, by simp [oneR]⟩

/-- strings appended to a row of one's own, long ones -/
theorem app_sinW {w : World} {base : Nat} {u v2 : Value} {z1 z2 : List Str} (hown : SO base u z1 w) (h2 : SIn w v2 z2) (hs : z1.length + z2.length ≤ 8796093030400) (hbase : base ≤ w.heap.size) :
    ∃ a n c w', (Builtin.append_ #[24, 24] 24 #[u, v2]).run Try.prog w = .ok (.slice a n c) w' ∧ SO base (.slice a n c) (z1 ++ z2) w' ∧ Below base w w' := by
  rcases h2.open with ⟨rfl, a, c, rfl⟩ | ⟨_, b, off, c, rfl, _, _, hc⟩
  · rw [List.append_nil]
    obtain ⟨a2, c2, rfl⟩ := own_shape' hown
    exact ⟨a2, _, c2, w, app_none _ hown a c, hown, Below.refl _ _⟩
  · obtain ⟨i0, hi, hz0, hz1, hz2⟩ := info_parts infoStr
    obtain ⟨v', w', r, o, gr, _⟩ := run_append_own_wide (P := Try.prog) w base 24 24 9 i0 (.string ByteArray.empty) 1 16 Try.underlying24 hi hz0 hz1 hz2 rfl (by omega) u z1.length (z1.map encStr) hown ⟨b, off, none⟩ z2.length c (z2.map encStr) (by simp) (fun j y hj => by
      obtain ⟨hlt, rfl⟩ := map_at hj
      have := hc j hlt
      rw [List.getD, List.getElem?_eq_getElem hlt] at this
      rw [addrK]; exact this) (map_one _) (by unfold maxLen; omega) (by omega) hbase
    rw [← List.map_append] at o
    rw [← List.length_append] at o
    obtain ⟨a2, c2, rfl⟩ := own_shape' o
    exact ⟨a2, _, c2, w', r, o, (Below.refl _ w).grown gr hbase fun k hk => (hown.lt k hk).1⟩
end Go.Proofs.Ytihiohohocfchaa
