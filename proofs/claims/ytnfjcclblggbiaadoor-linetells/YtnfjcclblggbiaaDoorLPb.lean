/-
  Plain facts on printed lines: what Print writes, joined again, gives the same lines; joined lines rise, are not empty and hold no newline. No condition.
-/
import Derived.Test.YtnfjcclblggbiaaDoorLPp
namespace Go.Proofs.YtnfjcclblggbiaaDoor

theorem esc_app (a b : Str) : esc (a ++ b) = esc a ++ esc b := by
  induction a with
  | nil => rfl
  | cons c r ih => rw [List.cons_append, esc, esc, ih]; split <;> rfl
theorem esc_head : ∀ (r : Str) (d : UInt8) (q : Str), esc r = d :: q → d ≠ 35
  | [], d, q, h => by simp [esc] at h
  | c :: r, d, q, h => by
    rw [esc] at h
    split at h
    · simp at h; rw [← h.1]; decide
    · rename_i hc; simp at h; rw [← h.1]; exact hc
theorem esc_none {r : Str} (h : esc r = []) : r = [] := by
  cases r with
  | nil => rfl
  | cons c r => rw [esc] at h; split at h <;> simp at h
theorem repl_esc : ∀ t : Str, repl (esc t) = t
  | [] => rfl
  | c :: r => by
    have ih := repl_esc r
    rw [esc]
    split
    · rename_i h; rw [repl, if_pos ⟨rfl, rfl⟩, ih, h]
    · rename_i h
      cases e : esc r with
      | nil => rw [esc_none e, repl]
      | cons d q =>
        rw [repl, if_neg (fun k => esc_head r d q e k.2), ← e, ih]
theorem cut1_esc : ∀ (t : Str) (p : Bool), cut1 p (esc t) = esc t
  | [], _ => rfl
  | c :: r, p => by
    rw [esc]
    split
    · rw [cut1, if_neg (fun k => absurd k.1 (by decide)), cut1, if_neg (fun k => absurd k.2 (by decide)), cut1_esc r]
    · rename_i h; rw [cut1, if_neg (fun k => h k.1), cut1_esc r]
theorem unc_esc (t : Str) : unc (esc t) = trimr t := by unfold unc; rw [cut1_esc, repl_esc]
theorem esc_mem {t : Str} {c : UInt8} (h : c ∈ esc t) : c ∈ t ∨ c = 92 := by
  induction t with
  | nil => simp [esc] at h
  | cons d r ih =>
    rw [esc] at h
    split at h
    · rename_i hd
      simp at h
      rcases h with h | h | h
      · exact .inr h
      · left; rw [h, hd]; simp
      · rcases ih h with k | k
        · exact .inl (by simp [k])
        · exact .inr k
    · simp at h
      rcases h with h | h
      · left; rw [h]; simp
      · rcases ih h with k | k
        · exact .inl (by simp [k])
        · exact .inr k
theorem esc_last {t : Str} (h : ends92 (esc t) = true) : ∃ q, t = q ++ [92] ∧ (esc t).dropLast = esc q := by
  rcases List.eq_nil_or_concat t with rfl | ⟨q, c, rfl⟩
  · simp [esc, ends92] at h
  · rw [List.concat_eq_append] at *
    rw [esc_app] at h ⊢
    by_cases hc : c = 35
    · subst hc
      have e : esc q ++ esc [35] = (esc q ++ [92]) ++ [35] := by simp [esc]
      rw [e] at h
      unfold ends92 at h
      rw [List.getLast?_concat] at h
      simp at h
    · have e : esc [c] = [c] := by simp [esc, hc]
      rw [e] at h ⊢
      unfold ends92 at h
      rw [List.getLast?_concat] at h
      simp at h
      subst h
      exact ⟨q, rfl, by simp⟩

/-- bytes of the answer are bytes of the input, or blanks -/
theorem triml_mem {s : Str} {c : UInt8} (h : c ∈ triml s) : c ∈ s := (List.dropWhile_sublist _).subset h
theorem trimr_mem {s : Str} {c : UInt8} (h : c ∈ trimr s) : c ∈ s := by
  unfold trimr at h
  rw [List.mem_reverse] at h
  exact List.mem_reverse.1 ((List.dropWhile_sublist _).subset h)
theorem cut1_mem : ∀ {s : Str} {p : Bool} {c : UInt8}, c ∈ cut1 p s → c ∈ s
  | [], _, c, h => by simp [cut1] at h
  | d :: r, p, c, h => by
    rw [cut1] at h
    split at h
    · simp at h
    · rcases List.mem_cons.1 h with rfl | h
      · simp
      · exact List.mem_cons_of_mem _ (cut1_mem h)
theorem repl_mem : ∀ {s : Str} {c : UInt8}, c ∈ repl s → c ∈ s
  | [], c, h => by simp [repl] at h
  | [d], c, h => by simpa [repl] using h
  | d :: e :: r, c, h => by
    rw [repl] at h
    split at h
    · rename_i k
      rcases List.mem_cons.1 h with rfl | h
      · simp [k.2]
      · exact List.mem_cons_of_mem _ (List.mem_cons_of_mem _ (repl_mem h))
    · rcases List.mem_cons.1 h with rfl | h
      · simp
      · exact List.mem_cons_of_mem _ (repl_mem h)
theorem unc_mem {s : Str} {c : UInt8} (h : c ∈ unc s) : c ∈ s := cut1_mem (repl_mem (trimr_mem h))
theorem joinT_mem : ∀ {L : List Str} {c : UInt8}, c ∈ (joinT L).1 → c = 32 ∨ ∃ x ∈ L, c ∈ x
  | [], c, h => by simp [joinT] at h
  | x :: r, c, h => by
    rw [joinT] at h
    split at h
    · simp at h
      rcases h with h | h | h
      · exact .inl h
      · exact .inr ⟨x, by simp, triml_mem (List.dropLast_subset _ h)⟩
      · rcases joinT_mem h with k | ⟨y, hy, k⟩
        · exact .inl k
        · exact .inr ⟨y, by simp [hy], k⟩
    · simp at h
      rcases h with h | h
      · exact .inl h
      · exact .inr ⟨x, by simp, triml_mem h⟩
theorem joinH_mem {L : List Str} {c : UInt8} (h : c ∈ (joinH L).1) : c = 32 ∨ ∃ x ∈ L, c ∈ x := by
  cases L with
  | nil => simp [joinH] at h
  | cons x r =>
    rw [joinH] at h
    split at h
    · simp at h
      rcases h with h | h
      · exact .inr ⟨x, by simp, List.dropLast_subset _ h⟩
      · rcases joinT_mem h with k | ⟨y, hy, k⟩
        · exact .inl k
        · exact .inr ⟨y, by simp [hy], k⟩
    · exact .inr ⟨x, by simp, h⟩
theorem linesF_text : ∀ (f n : Nat) (L : List Str), ∀ x ∈ linesF f n L, x.2 ≠ [] ∧ ∀ c ∈ x.2, c = 32 ∨ ∃ y ∈ L, c ∈ y
  | 0, _, _, x, hx => by simp [linesF] at hx
  | f + 1, n, L, x, hx => by
    rw [linesF] at hx
    split at hx
    · simp at hx
    · rcases List.mem_append.1 hx with h | h
      · split at h
        · simp at h
        · rename_i hu
          simp at h; subst h
          exact ⟨hu, fun c hc => joinH_mem (unc_mem hc)⟩
      · obtain ⟨h1, h2⟩ := linesF_text f _ _ x h
        refine ⟨h1, fun c hc => ?_⟩
        rcases h2 c hc with k | ⟨y, hy, k⟩
        · exact .inl k
        · exact .inr ⟨y, List.mem_of_mem_drop hy, k⟩
theorem lines_text (n : Nat) (s : Str) : ∀ x ∈ linesAt n (phys s), x.2 ≠ [] ∧ 10 ∉ x.2 := by
  intro x hx
  obtain ⟨h1, h2⟩ := linesF_text _ _ _ x hx
  refine ⟨h1, fun h => ?_⟩
  rcases h2 10 h with k | ⟨y, hy, k⟩
  · exact absurd k (by decide)
  · exact phys_noNL s y hy k

/-- numbers rise from p on -/
def Rise : Int → List Ln → Prop
  | _, [] => True
  | p, x :: r => p < x.1 ∧ Rise x.1 r
theorem Rise.mono {p q : Int} {z : List Ln} (h : Rise q z) (hp : p ≤ q) : Rise p z := by
  cases z with
  | nil => trivial
  | cons x r => exact ⟨Int.lt_of_le_of_lt hp h.1, h.2⟩
theorem linesF_rise : ∀ (f n : Nat) (L : List Str), Rise (n : Int) (linesF f n L)
  | 0, _, _ => trivial
  | f + 1, n, [] => by simp [linesF, Rise]
  | f + 1, n, y :: r => by
    have hp := joinH_pos y r
    have ih := linesF_rise f (n + (joinH (y :: r)).2) ((y :: r).drop (joinH (y :: r)).2)
    rw [linesF, if_neg (by simp)]
    split
    · rw [List.nil_append]; exact ih.mono (by omega)
    · exact ⟨by show (n : Int) < ((n + 1 : Nat) : Int); omega, ih.mono (by show ((n + 1 : Nat) : Int) ≤ _; omega)⟩
theorem lines_rise (n : Nat) (L : List Str) : Rise (n : Int) (linesAt n L) := linesF_rise _ _ _

/-- the text is read back as a single line -/
def surv (t : Str) : Bool := decide ((joinR (esc t)).2 = 0 ∧ (joinR (esc t)).1.length = 1 ∧ ((joinR (esc t)).1.getD 0 (0, [])).2 = t)
theorem joinR_may {s : Str} (h : (joinR s).2 = 0) : s.all may = true := by
  unfold joinR at h
  split at h
  · cases h
  · split at h
    · rename_i h2; exact h2
    · cases h
theorem surv_facts {t : Str} (h : surv t = true) : t ≠ [] ∧ 10 ∉ esc t ∧ ends92 (esc t) = false ∧ unc (esc t) = t ∧ (esc t).length ≤ 20000 ∧ (esc t).all may = true := by
  obtain ⟨h1, h2, h3⟩ := of_decide_eq_true h
  obtain ⟨e, hl⟩ := joinR_ok h1
  have hm := joinR_may h1
  rw [e] at h2 h3
  obtain ⟨y, hy⟩ := List.length_eq_one_iff.1 h2
  rw [hy] at h3
  have h3 : y.2 = t := h3
  obtain ⟨t1, t2⟩ := lines_text 0 (esc t) y (by rw [hy]; simp)
  rw [h3] at t1 t2
  have n10 : 10 ∉ esc t := fun k => by
    rcases esc_mem k with k | k
    · exact t2 k
    · exact absurd k (by decide)
  have hne : esc t ≠ [] := fun k => t1 (esc_none k)
  rw [phys_bare (esc t) n10 hne, linesAt_cons 0 [esc t] (by simp)] at hy
  cases he : ends92 (esc t) with
  | true =>
    exfalso
    obtain ⟨q, hq, hd⟩ := esc_last he
    have hj : joinH [esc t] = (esc q, 1) := by simp [joinH, he, joinT, hd]
    rw [hj] at hy
    simp only [List.drop_one, List.tail_cons, linesAt_nil, List.append_nil] at hy
    split at hy
    · simp at hy
    · simp at hy
      rw [← hy] at h3
      have h3 : unc (esc q) = t := h3
      rw [unc_esc] at h3
      have := trimr_le q
      have e1 := congrArg List.length h3
      rw [hq] at e1
      simp at e1
      omega
  | false =>
    have hj : joinH [esc t] = (esc t, 1) := by simp [joinH, he]
    rw [hj] at hy
    simp only [List.drop_one, List.tail_cons, linesAt_nil, List.append_nil] at hy
    split at hy
    · simp at hy
    · simp at hy
      rw [← hy] at h3
      exact ⟨t1, n10, rfl, h3, hl, hm⟩

/-- Print's first look -/
def fit : Int → List Ln → Bool
  | _, [] => true
  | p, x :: r => (decide (p < x.1) && surv x.2) && fit x.1 r
def lastAt : Int → List Ln → Int
  | p, [] => p
  | _, x :: r => lastAt x.1 r
/-- the text behind the line p -/
def body : Int → List Ln → Str
  | _, [] => []
  | p, x :: r => List.replicate (x.1 - p - 1).toNat 10 ++ (esc x.2 ++ 10 :: body x.1 r)
/-- Print's answer -/
def printR (z : List Ln) : Str × Int := if fit 0 z then (if 20000 < lastAt 0 z then ([], 2) else if 20000 < (body 0 z).length then ([], 2) else (body 0 z, 0)) else ([], 3)

theorem phys_nls (k : Nat) (s : Str) : phys (List.replicate k 10 ++ s) = List.replicate k [] ++ phys s := by
  induction k with
  | zero => rfl
  | succ k ih => rw [List.replicate_succ, List.cons_append, phys, if_pos rfl, ih]; rfl
theorem phys_line (x s : Str) (h : 10 ∉ x) : phys (x ++ 10 :: s) = x :: phys s := by rw [phys_append, phys_one x h]; rfl
theorem lines_nl (n : Nat) (L : List Str) : linesAt n ([] :: L) = linesAt (n + 1) L := by
  rw [linesAt_cons n _ (by simp)]
  have : joinH ([] :: L) = ([], 1) := by simp [joinH, ends92]
  rw [this]
  have : unc [] = [] := rfl
  simp [this]
theorem lines_nls (k n : Nat) (L : List Str) : linesAt n (List.replicate k [] ++ L) = linesAt (n + k) L := by
  induction k generalizing n with
  | zero => rfl
  | succ k ih => rw [List.replicate_succ, List.cons_append, lines_nl, ih, Nat.add_assoc, Nat.add_comm 1]
theorem lines_one (n : Nat) (t : Str) (L : List Str) (h0 : t ≠ []) (he : ends92 (esc t) = false) (hu : unc (esc t) = t) : linesAt n (esc t :: L) = (((n + 1 : Nat) : Int), t) :: linesAt (n + 1) L := by
  rw [linesAt_cons n _ (by simp)]
  have : joinH (esc t :: L) = (esc t, 1) := by simp [joinH, he]
  rw [this, hu, if_neg h0]
  rfl
theorem body_lines : ∀ (z : List Ln) (p : Nat), fit (p : Int) z = true → linesAt p (phys (body (p : Int) z)) = z
  | [], p, _ => by simp [body, phys, linesAt_nil]
  | x :: r, p, h => by
    rw [fit, Bool.and_eq_true, Bool.and_eq_true, decide_eq_true_iff] at h
    obtain ⟨⟨h1, h2⟩, h3⟩ := h
    obtain ⟨s1, s2, s3, s4, _, _⟩ := surv_facts h2
    obtain ⟨m, hm⟩ : ∃ m : Nat, x.1 = m := ⟨x.1.toNat, by omega⟩
    rw [body, phys_nls, phys_line _ _ s2, lines_nls, lines_one _ _ _ s1 s3 s4]
    have e : p + (x.1 - (p : Int) - 1).toNat + 1 = m := by omega
    rw [e, hm]
    rw [hm] at h3
    rw [body_lines r m h3, ← hm]
theorem body_may : ∀ (z : List Ln) (p : Int), fit p z = true → (body p z).all may = true
  | [], _, _ => rfl
  | x :: r, p, h => by
    rw [fit, Bool.and_eq_true, Bool.and_eq_true] at h
    obtain ⟨⟨h1, h2⟩, h3⟩ := h
    obtain ⟨_, _, _, _, _, s6⟩ := surv_facts h2
    have ih := body_may r x.1 h3
    have m10 : may 10 = true := by decide
    rw [body, List.all_append, List.all_append, List.all_cons, ih, s6, m10]
    simp [m10]
/-- what is printed is read back -/
theorem print_back {z : List Ln} (h : (printR z).2 = 0) : joinR (printR z).1 = (z, 0) := by
  unfold printR at h ⊢
  split at h
  · rename_i hf
    rw [if_pos hf]
    split at h
    · cases h
    · rename_i hl
      rw [if_neg hl]
      split at h
      · cases h
      · rename_i hb
        rw [if_neg hb]
        show joinR (body 0 z) = _
        unfold joinR
        rw [if_neg hb, body_may z 0 hf, if_pos rfl]
        have := body_lines z 0 hf
        rw [show ((0 : Nat) : Int) = 0 from rfl] at this
        rw [this]
  · cases h
theorem print_none {z : List Ln} (h : (printR z).2 ≠ 0) : (printR z).1 = [] := by
  unfold printR at h ⊢
  split
  · rename_i hf
    rw [if_pos hf] at h
    split
    · rfl
    · rename_i hl
      rw [if_neg hl] at h
      split
      · rfl
      · rename_i hb; rw [if_neg hb] at h; exact absurd rfl h
  · rfl
/-- the numbers of joined lines -/
theorem lines_last {s : Str} (h : (joinR s).2 = 0) : Rise 0 (joinR s).1 ∧ ∀ x ∈ (joinR s).1, x.2 ≠ [] ∧ 10 ∉ x.2 ∧ x.1 ≤ ((s.count 10 : Nat) : Int) + 1 := by
  obtain ⟨e, _⟩ := joinR_ok h
  rw [e]
  refine ⟨lines_rise 0 _, fun x hx => ?_⟩
  obtain ⟨h1, h2⟩ := lines_text 0 s x hx
  refine ⟨h1, h2, ?_⟩
  have h3 := (linesF_at _ _ _ x hx).2
  have h4 := phys_length s
  omega
end Go.Proofs.YtnfjcclblggbiaaDoor
