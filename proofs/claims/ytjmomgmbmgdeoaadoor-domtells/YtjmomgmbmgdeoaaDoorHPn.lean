/-
  Reachability in plain words, as a program may answer it: what the numbers of a set need, one step on from what is new alone, the faults of rows and sets, rows turned one by one. No condition.
-/
import Derived.Test.YtjmomgmbmgdeoaaDoorHMe
import Derived.Test.YtjmomgmbmgdeoaaDoorHPl
namespace Go.Proofs.YtjmomgmbmgdeoaaDoor
set_option maxRecDepth 100000
set_option linter.unusedVariables false

/-! what the numbers of a set need -/
def needsOn (r : List Bv) (l : List Nat) : Bv := l.foldl (fun u n => u ||| wAt r n) 0#64
theorem needsOn_snoc (r : List Bv) (l : List Nat) (n : Nat) : needsOn r (l ++ [n]) = needsOn r l ||| wAt r n := by
  unfold needsOn; rw [List.foldl_append]; rfl
theorem needsOn_take {r : List Bv} {l : List Nat} {j n : Nat} (h : l[j]? = some n) : needsOn r (l.take (j + 1)) = needsOn r (l.take j) ||| wAt r n := by
  rw [List.take_add_one, h]
  exact needsOn_snoc _ _ _
theorem needsFrom_bit (r : List Bv) (k : Nat) : ∀ (l : List Nat) (u : Bv), ((l.foldl (fun u n => u ||| wAt r n) u).getLsbD k = true ↔ u.getLsbD k = true ∨ ∃ n ∈ l, (wAt r n).getLsbD k = true)
  | [], u => by simp
  | x :: l, u => by
    rw [List.foldl_cons, needsFrom_bit r k l, or_bit]
    constructor
    · rintro ((h | h) | ⟨n, h1, h2⟩)
      · exact .inl h
      · exact .inr ⟨x, List.mem_cons_self .., h⟩
      · exact .inr ⟨n, List.mem_cons_of_mem _ h1, h2⟩
    · rintro (h | ⟨n, h1, h2⟩)
      · exact .inl (.inl h)
      · rcases List.mem_cons.1 h1 with rfl | h1
        · exact .inl (.inr h2)
        · exact .inr ⟨n, h1, h2⟩
def needR (r : List Bv) (s : Bv) : Bv := needsOn r (nums s)
theorem needR_bit {r : List Bv} {s : Bv} {k : Nat} : (needR r s).getLsbD k = true ↔ ∃ i, s.getLsbD i = true ∧ (wAt r i).getLsbD k = true := by
  unfold needR needsOn
  rw [needsFrom_bit]
  constructor
  · rintro (h | ⟨n, h1, h2⟩)
    · simp at h
    · exact ⟨n, (nums_mem.1 h1).2, h2⟩
  · rintro ⟨i, h1, h2⟩
    exact .inr ⟨i, nums_mem.2 ⟨bit_lt h1, h1⟩, h2⟩
theorem stepR_need (r : List Bv) (s : Bv) : stepR r s = s ||| needR r s := by
  refine Le.anti (fun k hk => ?_) (fun k hk => ?_)
  · rcases stepR_bit.1 hk with h | h
    · exact or_bit.2 (.inl h)
    · exact or_bit.2 (.inr (needR_bit.2 h))
  · rcases or_bit.1 hk with h | h
    · exact stepR_bit.2 (.inl h)
    · exact stepR_bit.2 (.inr (needR_bit.1 h))
/-- s has been come to, and all that its numbers outside f need lies in it -/
def Fr (r : List Bv) (s f : Bv) : Prop := Le f s ∧ stepR r s = s ||| needR r f
theorem fr_start (r : List Bv) (s : Bv) : Fr r s s := ⟨Le.refl s, stepR_need r s⟩
theorem fr_or {r : List Bv} {s f : Bv} (h : Fr r s f) : s ||| (needR r f &&& ~~~s) = stepR r s := by
  rw [h.2]
  refine Le.anti (fun k hk => ?_) (fun k hk => ?_)
  · rcases or_bit.1 hk with h | h
    · exact or_bit.2 (.inl h)
    · exact or_bit.2 (.inr (and_bit.1 h).1)
  · cases hs : s.getLsbD k
    · rcases or_bit.1 hk with h | h
      · rw [h] at hs; cases hs
      · refine or_bit.2 (.inr (and_bit.2 ⟨h, ?_⟩))
        rw [BitVec.getLsbD_not, hs, decide_eq_true (bit_lt h)]; rfl
    · exact or_bit.2 (.inl hs)
theorem fr_next {r : List Bv} {s f : Bv} (h : Fr r s f) : Fr r (stepR r s) (needR r f &&& ~~~s) := by
  have e := fr_or h
  refine ⟨fun k hk => by rw [← e]; exact or_bit.2 (.inr hk), ?_⟩
  refine Le.anti (fun k hk => ?_) (fun k hk => ?_)
  · rcases stepR_bit.1 hk with h1 | ⟨i, h1, h2⟩
    · exact or_bit.2 (.inl h1)
    · rw [← e] at h1
      rcases or_bit.1 h1 with h3 | h3
      · exact or_bit.2 (.inl (stepR_bit.2 (.inr ⟨i, h3, h2⟩)))
      · exact or_bit.2 (.inr (needR_bit.2 ⟨i, h3, h2⟩))
  · rcases or_bit.1 hk with h1 | h1
    · exact le_stepR r _ k h1
    · obtain ⟨i, h2, h3⟩ := needR_bit.1 h1
      exact stepR_bit.2 (.inr ⟨i, by rw [← e]; exact or_bit.2 (.inr h2), h3⟩)
theorem fr_stop {r : List Bv} {s : Bv} (h : Fr r s 0#64) : stepR r s = s := by
  rw [h.2]
  refine Le.anti (fun k hk => ?_) (fun k hk => or_bit.2 (.inl hk))
  rcases or_bit.1 hk with h1 | h1
  · exact h1
  · obtain ⟨i, h2, _⟩ := needR_bit.1 h1
    simp at h2
theorem fr_in {r : List Bv} {s f : Bv} {n : Nat} (h : Fr r s f) (hs : SetIn n s) : SetIn n f := fun k hk => by
  cases hb : f.getLsbD k
  · rfl
  · have := h.1 k hb
    rw [hs k hk] at this; cases this
theorem steps_head (r : List Bv) (s : Bv) (m : Nat) : steps r s (m + 1) = steps r (stepR r s) m := by
  rw [Nat.add_comm, steps_add]; rfl

/-! faults -/
open Classical in
/-- whether the numbers of the sets lie below n -/
noncomputable def ckS (n : Nat) (z : List Bv) : Int := if ∀ k, k < z.length → SetIn n (wAt z k) then 0 else 4
theorem ckS_ok {n : Nat} {z : List Bv} (h : ∀ k, k < z.length → SetIn n (wAt z k)) : ckS n z = 0 := by unfold ckS; rw [if_pos h]
theorem ckS_bad {n : Nat} {z : List Bv} {k : Nat} (hk : k < z.length) (h : ¬ SetIn n (wAt z k)) : ckS n z = 4 := by unfold ckS; rw [if_neg fun h' => h (h' k hk)]
theorem ckS_zero {n : Nat} {z : List Bv} (h : ckS n z = 0) : ∀ k, k < z.length → SetIn n (wAt z k) := by
  unfold ckS at h
  split at h
  · assumption
  · cases h
/-- the first fault of rows -/
noncomputable def ckR (r : List Bv) : Int := if 64 < r.length then 2 else ckS r.length r
theorem ckR_large {r : List Bv} (h : 64 < r.length) : ckR r = 2 := by unfold ckR; rw [if_pos h]
theorem ckR_small {r : List Bv} (h : r.length ≤ 64) : ckR r = ckS r.length r := by unfold ckR; rw [if_neg (by omega)]
theorem ckR_zero {r : List Bv} (h : ckR r = 0) : RowsIn r := by
  unfold ckR at h
  split at h
  · cases h
  · have := ckS_zero h
    refine ⟨by omega, fun i => ?_⟩
    rcases Nat.lt_or_ge i r.length with h' | h'
    · exact this i h'
    · intro k _; rw [wAt_ge h']; simp
theorem ckR_rows {r : List Bv} (h : RowsIn r) : ckR r = 0 := by rw [ckR_small h.len]; exact ckS_ok fun k _ => h.row k
/-- the first fault of rows and of sets of their numbers -/
noncomputable def ckW (r z : List Bv) : Int := if ckR r ≠ 0 then ckR r else ckS r.length z
theorem ckW_bad {r z : List Bv} (h : ckR r ≠ 0) : ckW r z = ckR r := by unfold ckW; rw [if_pos h]
theorem ckW_rows {r z : List Bv} (h : ckR r = 0) : ckW r z = ckS r.length z := by unfold ckW; rw [if_neg (by rw [h]; simp)]
theorem ckW_zero {r z : List Bv} (h : ckW r z = 0) : RowsIn r ∧ ∀ k, k < z.length → SetIn r.length (wAt z k) := by
  unfold ckW at h
  split at h
  · rename_i h1; exact absurd h h1
  · rename_i h1
    exact ⟨ckR_zero (Decidable.not_not.1 h1), ckS_zero h⟩
theorem ckW_mk {r z : List Bv} (h : RowsIn r) (hz : ∀ k, k < z.length → SetIn r.length (wAt z k)) : ckW r z = 0 := by
  rw [ckW_rows (ckR_rows h)]; exact ckS_ok hz
theorem ckW_nil (r : List Bv) : ckW r [] = ckR r := by
  by_cases h : ckR r = 0
  · rw [ckW_rows h, h]; exact ckS_ok fun k hk => absurd hk (Nat.not_lt_zero _)
  · exact ckW_bad h
theorem ckW_one {r : List Bv} {s : Bv} : ckW r [s] = 0 ↔ RowsIn r ∧ SetIn r.length s := by
  constructor
  · intro h
    obtain ⟨h1, h2⟩ := ckW_zero h
    exact ⟨h1, h2 0 (by simp)⟩
  · rintro ⟨h1, h2⟩
    refine ckW_mk h1 fun k hk => ?_
    obtain rfl : k = 0 := by simpa using hk
    exact h2
theorem ckW_two {r : List Bv} {s t : Bv} : ckW r [s, t] = 0 ↔ RowsIn r ∧ SetIn r.length s ∧ SetIn r.length t := by
  constructor
  · intro h
    obtain ⟨h1, h2⟩ := ckW_zero h
    exact ⟨h1, h2 0 (by simp), h2 1 (by simp)⟩
  · rintro ⟨h1, h2, h3⟩
    refine ckW_mk h1 fun k hk => ?_
    match k, hk with
    | 0, _ => exact h2
    | 1, _ => exact h3
    | k + 2, hk => exact absurd hk (by simp)
/-- what From, Within and Between answer -/
noncomputable def frR (r : List Bv) (s : Bv) : Bv := if ckW r [s] = 0 then allR r s else 0#64
theorem frR_ok {r : List Bv} {s : Bv} (h : ckW r [s] = 0) : frR r s = allR r s := by unfold frR; rw [if_pos h]
theorem frR_bad {r : List Bv} {s : Bv} (h : ckW r [s] ≠ 0) : frR r s = 0#64 := by unfold frR; rw [if_neg h]
noncomputable def wiC (r : List Bv) (s : Bv) (d : Int) : Int := if ckW r [s] ≠ 0 then ckW r [s] else if d < 0 then 1 else 0
noncomputable def wiR (r : List Bv) (s : Bv) (d : Int) : Bv := if wiC r s d = 0 then steps r s d.toNat else 0#64
theorem wiC_bad {r : List Bv} {s : Bv} {d : Int} (h : ckW r [s] ≠ 0) : wiC r s d = ckW r [s] := by unfold wiC; rw [if_pos h]
theorem wiC_neg {r : List Bv} {s : Bv} {d : Int} (h : ckW r [s] = 0) (hd : d < 0) : wiC r s d = 1 := by unfold wiC; rw [if_neg (by rw [h]; simp), if_pos hd]
theorem wiC_ok {r : List Bv} {s : Bv} {d : Int} (h : ckW r [s] = 0) (hd : 0 ≤ d) : wiC r s d = 0 := by unfold wiC; rw [if_neg (by rw [h]; simp), if_neg (by omega)]
theorem wiC_zero {r : List Bv} {s : Bv} {d : Int} (h : wiC r s d = 0) : ckW r [s] = 0 ∧ 0 ≤ d := by
  by_cases h1 : ckW r [s] = 0
  · refine ⟨h1, ?_⟩
    rcases Int.lt_or_le d 0 with h2 | h2
    · rw [wiC_neg h1 h2] at h; cases h
    · exact h2
  · rw [wiC_bad h1] at h; exact absurd h h1
theorem wiR_ok {r : List Bv} {s : Bv} {d : Int} (h : wiC r s d = 0) : wiR r s d = steps r s d.toNat := by unfold wiR; rw [if_pos h]
theorem wiR_bad {r : List Bv} {s : Bv} {d : Int} (h : wiC r s d ≠ 0) : wiR r s d = 0#64 := by unfold wiR; rw [if_neg h]
noncomputable def beR (r : List Bv) (a b : Bv) : Bv := if ckW r [a, b] = 0 then betw r a b else 0#64
theorem beR_ok {r : List Bv} {a b : Bv} (h : ckW r [a, b] = 0) : beR r a b = betw r a b := by unfold beR; rw [if_pos h]
theorem beR_bad {r : List Bv} {a b : Bv} (h : ckW r [a, b] ≠ 0) : beR r a b = 0#64 := by unfold beR; rw [if_neg h]

/-! rows turned row by row, number by number -/
/-- of the rows below i all is turned, of row i the first j numbers -/
def Rv (r : List Bv) (i j : Nat) (O : List Bv) : Prop := O.length = r.length ∧ ∀ a b, a < r.length → b < 64 → ((wAt O a).getLsbD b = true ↔ (b < i ∧ (wAt r b).getLsbD a = true) ∨ (b = i ∧ a ∈ (nums (wAt r i)).take j))
theorem rv_zero (r : List Bv) : Rv r 0 0 (List.replicate r.length 0#64) := ⟨List.length_replicate, fun a b _ _ => by
  rw [wAt_replicate, List.take_zero]; simp⟩
theorem rv_row {r O : List Bv} {i : Nat} (h : Rv r i (cnt (wAt r i)) O) : Rv r (i + 1) 0 O := ⟨h.1, fun a b ha hb => by
  rw [h.2 a b ha hb, List.take_of_length_le (by rw [nums_length]; exact Nat.le_refl _), List.take_zero, nums_mem]
  constructor
  · rintro (⟨h1, h2⟩ | ⟨rfl, _, h2⟩)
    · exact .inl ⟨by omega, h2⟩
    · exact .inl ⟨by omega, h2⟩
  · rintro (⟨h1, h2⟩ | ⟨_, h2⟩)
    · by_cases e : b = i
      · subst e; exact .inr ⟨rfl, bit_lt h2, h2⟩
      · exact .inl ⟨by omega, h2⟩
    · exact absurd h2 List.not_mem_nil⟩
theorem rv_next {r O : List Bv} {i j n : Nat} (h : Rv r i j O) (hn : n < r.length) (hj : (nums (wAt r i))[j]? = some n) : Rv r i (j + 1) (orAt O n (one i)) := ⟨by rw [orAt_length, h.1], fun a b ha hb => by
  rw [wAt_orAt _ _ _ _ (by rw [h.1]; exact hn), List.take_add_one, hj, List.mem_append]
  by_cases e : a = n
  · subst e
    rw [if_pos rfl, or_bit, one_bit i b hb, decide_eq_true_iff, h.2 a b ha hb]
    constructor
    · rintro ((h1 | ⟨h1, h2⟩) | rfl)
      · exact .inl h1
      · exact .inr ⟨h1, .inl h2⟩
      · exact .inr ⟨rfl, .inr (by simp)⟩
    · rintro (h1 | ⟨h1, _⟩)
      · exact .inl (.inl h1)
      · exact .inr h1
  · rw [if_neg e, h.2 a b ha hb]
    constructor
    · rintro (h1 | ⟨h1, h2⟩)
      · exact .inl h1
      · exact .inr ⟨h1, .inl h2⟩
    · rintro (h1 | ⟨h1, h2 | h2⟩)
      · exact .inl h1
      · exact .inr ⟨h1, h2⟩
      · simp at h2; exact absurd h2 e⟩
theorem rv_all {r O : List Bv} (hr : RowsIn r) (h : Rv r r.length 0 O) : O = turnR r :=
  turn_rows hr h.1 fun i k hi hk => by
    rw [h.2 i k hi hk, List.take_zero]
    constructor
    · rintro (⟨_, h2⟩ | ⟨_, h2⟩)
      · exact h2
      · exact absurd h2 List.not_mem_nil
    · exact fun h2 => .inl ⟨wAt_lt h2, h2⟩

/-! the rows closed one by one -/
def Cl (r : List Bv) (k : Nat) (O : List Bv) : Prop := O.length = r.length ∧ ∀ i, i < r.length → wAt O i = if i < k then allR r (wAt r i) else 0#64
theorem cl_zero (r : List Bv) : Cl r 0 (List.replicate r.length 0#64) := ⟨List.length_replicate, fun i _ => by rw [wAt_replicate, if_neg (Nat.not_lt_zero _)]⟩
theorem or_zero (s : Bv) : 0#64 ||| s = s := by simp
theorem cl_at {r O : List Bv} {k : Nat} (h : Cl r k O) (hk : k < r.length) : wAt O k ||| allR r (wAt r k) = allR r (wAt r k) := by rw [h.2 k hk, if_neg (Nat.lt_irrefl _), or_zero]
theorem cl_next {r O : List Bv} {k : Nat} (h : Cl r k O) (hk : k < r.length) : Cl r (k + 1) (orAt O k (allR r (wAt r k))) := ⟨by rw [orAt_length, h.1], fun i hi => by
  rw [wAt_orAt _ _ _ _ (by rw [h.1]; exact hk)]
  by_cases e : i = k
  · subst e; rw [if_pos rfl, cl_at h hk, if_pos (by omega)]
  · rw [if_neg e, h.2 i hi]
    by_cases e2 : i < k
    · rw [if_pos e2, if_pos (by omega)]
    · rw [if_neg e2, if_neg (by omega)]⟩
theorem cl_all {r O : List Bv} (h : Cl r r.length O) : O = closeR r :=
  rows_same (by rw [h.1, closeR_length]) fun i hi k _ => by
    have hi' : i < r.length := by rw [← h.1]; exact hi
    rw [h.2 i hi', if_pos hi', closeR_at hi']
end Go.Proofs.YtjmomgmbmgdeoaaDoor
