/-
  Plain facts on lines of two texts, one behind the other: where the first one's last line does not go on, the lines are both's. No condition.
-/
import Derived.Test.YtnfjcclblggbiaaDoorLPl
namespace Go.Proofs.YtnfjcclblggbiaaDoor

theorem triml_split (x : Str) : ∃ p, x = p ++ triml x ∧ ∀ c ∈ p, bl c = true := by
  unfold triml
  induction x with
  | nil => exact ⟨[], rfl, by simp⟩
  | cons c r ih =>
    cases hc : bl c with
    | false => exact ⟨[], by rw [List.dropWhile_cons]; simp [hc], by simp⟩
    | true =>
      obtain ⟨p, hp, hb⟩ := ih
      refine ⟨c :: p, ?_, ?_⟩
      · rw [List.dropWhile_cons]; simp only [hc, if_true, List.cons_append]; rw [← hp]
      · intro d hd
        rcases List.mem_cons.1 hd with rfl | hd
        · exact hc
        · exact hb d hd
theorem ends_triml (x : Str) : ends92 (triml x) = ends92 x := by
  obtain ⟨p, hp, hb⟩ := triml_split x
  by_cases h : triml x = []
  · rw [h] at hp ⊢
    rw [List.append_nil] at hp
    subst hp
    unfold ends92
    rw [List.getLast?_nil]
    cases hl : x.getLast? with
    | none => rfl
    | some c =>
      have := hb c (List.mem_of_getLast? hl)
      have hc : c ≠ 92 := by rintro rfl; exact absurd this (by decide)
      simp [hc]
  · have e : x.getLast? = (triml x).getLast? := by
      conv => lhs; rw [hp]
      rw [List.getLast?_append]
      cases hl : (triml x).getLast? with
      | none => rw [List.getLast?_eq_none_iff] at hl; exact absurd hl h
      | some c => rfl
    unfold ends92; rw [e]
/-- the last line does not go on -/
def Stops (A : List Str) : Prop := ∀ x, A.getLast? = some x → ends92 x = false
theorem Stops.tail {x y : Str} {r : List Str} (h : Stops (x :: y :: r)) : Stops (y :: r) := fun z hz => h z (by rw [List.getLast?_cons_cons]; exact hz)
theorem joinT_app : ∀ (A B : List Str), A ≠ [] → Stops A → joinT (A ++ B) = joinT A
  | [], _, h, _ => absurd rfl h
  | [x], B, _, hs => by
    have := hs x rfl
    simp only [List.cons_append, List.nil_append, joinT, ends_triml, this]
    simp
  | x :: y :: r, B, _, hs => by
    have ih := joinT_app (y :: r) B (by simp) hs.tail
    rw [List.cons_append, joinT, ih]
    rw [joinT.eq_2 x (y :: r)]
theorem joinH_app (A B : List Str) (h : A ≠ []) (hs : Stops A) : joinH (A ++ B) = joinH A := by
  match A, h, hs with
  | [x], _, hs =>
    have := hs x rfl
    simp [joinH, this]
  | x :: y :: r, _, hs =>
    have := joinT_app (y :: r) B (by simp) hs.tail
    rw [List.cons_append, joinH, this, joinH.eq_2 x (y :: r)]
theorem Stops.drop {A : List Str} (h : Stops A) (k : Nat) : Stops (A.drop k) := by
  intro x hx
  apply h
  rw [List.getLast?_drop] at hx
  split at hx
  · cases hx
  · exact hx
theorem lines_app : ∀ (k n : Nat) (A B : List Str), A.length ≤ k → Stops A → linesAt n (A ++ B) = linesAt n A ++ linesAt (n + A.length) B
  | k, n, [], B, _, _ => by simp [linesAt_nil]
  | 0, n, x :: r, B, hk, _ => by simp at hk
  | k + 1, n, x :: r, B, hk, hs => by
    have hj := joinH_app (x :: r) B (by simp) hs
    have hp := joinH_pos x r
    have hl := joinH_le (x :: r)
    rw [linesAt_cons n ((x :: r) ++ B) (by simp), linesAt_cons n (x :: r) (by simp), hj, List.drop_append_of_le_length hl,
      lines_app k (n + (joinH (x :: r)).2) ((x :: r).drop (joinH (x :: r)).2) B (by rw [List.length_drop]; simp at hk ⊢; omega) (hs.drop _), List.append_assoc]
    congr 3
    rw [List.length_drop]
    omega
def shift (n : Nat) (z : List Ln) : List Ln := z.map fun x => (x.1 + (n : Int), x.2)
theorem linesF_shift (m : Nat) : ∀ (f n : Nat) (L : List Str), linesF f (n + m) L = shift m (linesF f n L)
  | 0, _, _ => rfl
  | f + 1, n, L => by
    rw [linesF, linesF]
    split
    · rfl
    · have ih := linesF_shift m f (n + (joinH L).2) (L.drop (joinH L).2)
      rw [Nat.add_right_comm] at ih
      rw [ih]
      unfold shift
      rw [List.map_append]
      congr 1
      split
      · rfl
      · simp; omega
theorem lines_shift (m : Nat) (L : List Str) : linesAt m L = shift m (linesAt 0 L) := by
  unfold linesAt
  have := linesF_shift m L.length 0 L
  rw [Nat.zero_add] at this
  exact this
theorem phys_stops (s : Str) : ∃ A x, phys (s ++ [46, 10]) = A ++ [x ++ [46]] := by
  induction s with
  | nil => exact ⟨[], [], rfl⟩
  | cons c r ih =>
    obtain ⟨A, x, h⟩ := ih
    rw [List.cons_append, phys, h]
    by_cases hc : c = 10
    · rw [if_pos hc]; exact ⟨[] :: A, x, rfl⟩
    · rw [if_neg hc]
      cases A with
      | nil => exact ⟨[], c :: x, rfl⟩
      | cons a t => exact ⟨(c :: a) :: t, x, rfl⟩
theorem stops_dot (s : Str) : Stops (phys (s ++ [46, 10])) := by
  obtain ⟨A, x, h⟩ := phys_stops s
  intro y hy
  rw [h, List.getLast?_concat] at hy
  cases hy
  unfold ends92
  rw [List.getLast?_concat]; rfl
theorem joinR_ok {s : Str} (h : (joinR s).2 = 0) : (joinR s).1 = linesAt 0 (phys s) ∧ s.length ≤ 20000 := by
  unfold joinR at h ⊢
  split at h
  · cases h
  · split at h
    · rename_i h1 h2
      rw [if_neg h1, if_pos h2]
      exact ⟨rfl, by omega⟩
    · cases h
theorem linesF_at : ∀ (f n : Nat) (L : List Str), ∀ x ∈ linesF f n L, (n : Int) < x.1 ∧ x.1 ≤ ((n + L.length : Nat) : Int)
  | 0, _, _, x, hx => by simp [linesF] at hx
  | f + 1, n, [], x, hx => by simp [linesF] at hx
  | f + 1, n, y :: r, x, hx => by
    have hp := joinH_pos y r
    have hl := joinH_le (y :: r)
    rw [linesF, if_neg (by simp)] at hx
    rcases List.mem_append.1 hx with h | h
    · split at h
      · simp at h
      · simp at h; subst h; simp; omega
    · have := linesF_at f _ _ x h
      rw [List.length_drop] at this
      omega
theorem joinR_at (s : Str) : ∀ x ∈ (joinR s).1, 0 ≤ x.1 ∧ x.1 ≤ 20000 := by
  intro x hx
  unfold joinR at hx
  split at hx
  · simp at hx
  · split at hx
    · have h1 := linesF_at _ _ _ x hx
      have h2 := phys_count s
      simp at h1
      omega
    · simp at hx
/-- the lines of both -/
theorem parts_join {s t : Str} (h1 : (joinR (s ++ [46, 10])).2 = 0) (h2 : (joinR t).2 = 0) (h3 : (joinR (s ++ [46, 10] ++ t)).2 = 0) :
    (joinR (s ++ [46, 10] ++ t)).1 = (joinR (s ++ [46, 10])).1 ++ shift ((s ++ [46, 10]).count 10) (joinR t).1 := by
  rw [(joinR_ok h1).1, (joinR_ok h2).1, (joinR_ok h3).1]
  have e1 : s ++ [46, 10] ++ t = (s ++ [46]) ++ 10 :: t := by simp
  have e2 : s ++ [46, 10] = (s ++ [46]) ++ [10] := by simp
  have e3 : (phys (s ++ [46, 10])).length = (s ++ [46, 10]).count 10 := by rw [e2]; exact phys_length' _
  rw [e1, phys_append, ← e2, lines_app _ 0 _ _ (Nat.le_refl _) (stops_dot s), Nat.zero_add, e3, lines_shift (List.count 10 (s ++ [46, 10]))]
end Go.Proofs.YtnfjcclblggbiaaDoor
