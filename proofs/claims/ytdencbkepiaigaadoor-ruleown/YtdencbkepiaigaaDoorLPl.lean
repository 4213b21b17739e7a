/-
  Plain facts on bytes and lines: physical lines, continued lines, comments, blanks; nothing of the program. No condition.
-/
import Derived.Test.YtdencbkepiaigaaDoorLs
import Derived.Lib.Replace
import Derived.Lib.Split
import Derived.Lib.SlTrimSet
import Derived.Lib.Join
namespace Go.Proofs.YtdencbkepiaigaaDoor

abbrev Ln := Int × Str

/-- a blank -/
def bl (c : UInt8) : Bool := c == 32 || c == 9
/-- a byte that may occur -/
def may (c : UInt8) : Bool := decide (32 ≤ c.toNat ∧ c.toNat ≤ 126 ∨ c.toNat = 9 ∨ c.toNat = 10)
def triml (s : Str) : Str := s.dropWhile bl
def trimr (s : Str) : Str := (s.reverse.dropWhile bl).reverse
theorem bl_contains : (fun b : UInt8 => [32, 9].contains b) = bl := by
  funext b
  simp only [List.contains, List.elem, bl]
  cases (b == 32) <;> cases (b == 9) <;> rfl
theorem triml_lib (s : Str) : Lib.trimLeftS s [32, 9] = triml s := by unfold Lib.trimLeftS triml; rw [bl_contains]
theorem trimr_lib (s : Str) : Lib.trimRightS s [32, 9] = trimr s := by unfold Lib.trimRightS trimr; rw [bl_contains]
theorem trim_lib (s : Str) : Lib.trimS s [32, 9] = triml (trimr s) := by unfold Lib.trimS; rw [trimr_lib, triml_lib]
theorem triml_le (s : Str) : (triml s).length ≤ s.length := (List.dropWhile_sublist _).length_le
theorem trimr_le (s : Str) : (trimr s).length ≤ s.length := by
  unfold trimr
  rw [List.length_reverse]
  have := (List.dropWhile_sublist bl (l := s.reverse)).length_le
  simpa using this

/-- physical lines -/
def phys : Str → List Str
  | [] => []
  | c :: r => if c = 10 then [] :: phys r else match phys r with
    | [] => [[c]]
    | x :: t => (c :: x) :: t
/-- cut at each newline -/
def cutNL : Str → List Str
  | [] => [[]]
  | c :: r => if c = 10 then [] :: cutNL r else match cutNL r with
    | [] => [[c]]
    | x :: t => (c :: x) :: t
theorem cutNL_ne (s : Str) : cutNL s ≠ [] := by
  cases s with
  | nil => simp [cutNL]
  | cons c r => unfold cutNL; split
                · simp
                · split <;> simp

theorem index_cons_ne {c d : UInt8} (r : Str) (h : c ≠ d) : Lib.index (c :: r) [d] = if Lib.index r [d] == -1 then -1 else Lib.index r [d] + 1 := by
  have : ([d].isPrefixOf (c :: r)) = false := by simp [List.isPrefixOf, Ne.symm h]
  rw [Lib.index, this]; simp
theorem index_cons_eq (c : UInt8) (r : Str) : Lib.index (c :: r) [c] = 0 := by
  have : ([c].isPrefixOf (c :: r)) = true := by simp [List.isPrefixOf]
  rw [Lib.index, this]; simp

theorem splitK_cut : ∀ s : Str, Lib.splitK [10] 0 (s.count 10) s = cutNL s
  | [] => rfl
  | c :: r => by
    have ih := splitK_cut r
    by_cases h : c = 10
    · subst h
      rw [List.count_cons_self, cutNL, if_pos rfl, Lib.splitK, index_cons_eq]
      simp [ih]
    · rw [List.count_cons_of_ne h, cutNL, if_neg h]
      by_cases h0 : r.count 10 = 0
      · rw [h0] at ih ⊢
        simp only [Lib.splitK] at ih ⊢
        rw [← ih]
      · obtain ⟨k, hk⟩ := Nat.exists_eq_succ_of_ne_zero h0
        have hc : 0 < Lib.count r [10] := by rw [Lib.count_one]; omega
        obtain ⟨i, hi⟩ := Lib.index_of_count hc
        rw [hk] at ih ⊢
        simp only [Nat.succ_eq_add_one] at ih ⊢
        rw [Lib.splitK, hi] at ih
        rw [Lib.splitK, index_cons_ne r h, hi]
        have e1 : ((i : Int) == -1) = false := by apply beq_false_of_ne; omega
        have e2 : ((i : Int) + 1 == -1) = false := by apply beq_false_of_ne; omega
        rw [e1] at ih
        simp only [Bool.false_eq_true, if_false, e1, e2] at ih ⊢
        rw [← ih]
        have e3 : ((i : Int) + 1).toNat = i + 1 := by omega
        simp [e3]

theorem trimSuffix_cons (c : UInt8) (r : Str) (hr : r ≠ []) : Lib.trimSuffix (c :: r) [10] = c :: Lib.trimSuffix r [10] := by
  unfold Lib.trimSuffix Lib.hasSuffix
  have e : ([10] : List UInt8).isSuffixOf (c :: r) = ([10] : List UInt8).isSuffixOf r := by
    rw [Bool.eq_iff_iff, List.isSuffixOf_iff_suffix, List.isSuffixOf_iff_suffix, List.suffix_cons_iff]
    constructor
    · rintro (h | h)
      · simp at h; exact (hr h.2).elim
      · exact h
    · exact .inr
  rw [e]
  obtain ⟨d, q, rfl⟩ := List.exists_cons_of_ne_nil hr
  split <;> simp
theorem phys_cut : ∀ s : Str, s ≠ [] → phys s = cutNL (Lib.trimSuffix s [10])
  | [], h => absurd rfl h
  | [c], _ => by
    by_cases h : c = 10
    · subst h; rfl
    · have e : ([10] : List UInt8).isSuffixOf [c] = false := by
        rw [Bool.eq_false_iff]; intro k; rw [List.isSuffixOf_iff_suffix, List.suffix_cons_iff] at k
        rcases k with k | k
        · simp at k; exact h k.symm
        · simp at k
      simp [phys, h, Lib.trimSuffix, Lib.hasSuffix, e, cutNL]
  | c :: d :: r, _ => by
    have ih := phys_cut (d :: r) (by simp)
    rw [trimSuffix_cons c (d :: r) (by simp), phys, cutNL, ih]

theorem phys_append (s t : Str) : phys (s ++ 10 :: t) = phys (s ++ [10]) ++ phys t := by
  induction s with
  | nil => simp [phys]
  | cons c r ih =>
    simp only [List.cons_append, phys, ih]
    by_cases h : c = 10
    · simp [h]
    · simp only [if_neg h]
      have : phys (r ++ [10]) ≠ [] := by
        cases r with
        | nil => simp [phys]
        | cons d q => simp only [List.cons_append, phys]; split
                      · simp
                      · split <;> simp
      obtain ⟨x, y, e⟩ := List.exists_cons_of_ne_nil this
      rw [e]; rfl
theorem phys_length : ∀ s : Str, (phys s).length ≤ s.count 10 + 1
  | [] => by simp [phys]
  | c :: r => by
    have ih := phys_length r
    rw [phys]
    by_cases h : c = 10
    · subst h; rw [if_pos rfl, List.count_cons_self, List.length_cons]; omega
    · rw [if_neg h, List.count_cons_of_ne h]
      split
      · simp
      · rename_i e; rw [e] at ih; simpa using ih
theorem phys_length' (s : Str) : (phys (s ++ [10])).length = (s ++ [10]).count 10 := by
  induction s with
  | nil => simp [phys]
  | cons c r ih =>
    simp only [List.cons_append, phys]
    by_cases h : c = 10
    · subst h; rw [if_pos rfl, List.count_cons_self, List.length_cons, ih]
    · rw [if_neg h, List.count_cons_of_ne h, ← ih]
      split
      · rename_i e; rw [e] at ih; simp at ih
      · rename_i e; rw [e]; rfl
theorem phys_le : ∀ s : Str, ∀ x ∈ phys s, x.length ≤ s.length
  | [] => by simp [phys]
  | c :: r => by
    have ih := phys_le r
    rw [phys]
    intro x hx
    by_cases h : c = 10
    · rw [if_pos h] at hx
      rcases List.mem_cons.1 hx with rfl | hx
      · simp
      · have := ih x hx; simp; omega
    · rw [if_neg h] at hx
      split at hx
      · simp at hx; subst hx; simp
      · rename_i y t e
        rcases List.mem_cons.1 hx with rfl | hx
        · have := ih y (by rw [e]; simp); simp; omega
        · have := ih x (by rw [e]; simp [hx]); simp; omega
theorem phys_count (s : Str) : (phys s).length ≤ s.length := by
  induction s with
  | nil => simp [phys]
  | cons c r ih =>
    rw [phys]
    split
    · simpa using ih
    · split
      · simp
      · rename_i e; rw [e] at ih; simp at ih ⊢; omega
theorem phys_noNL : ∀ s : Str, ∀ x ∈ phys s, 10 ∉ x
  | [] => by simp [phys]
  | c :: r => by
    have ih := phys_noNL r
    rw [phys]
    intro x hx
    by_cases h : c = 10
    · rw [if_pos h] at hx
      rcases List.mem_cons.1 hx with rfl | hx
      · simp
      · exact ih x hx
    · rw [if_neg h] at hx
      split at hx
      · simp at hx; subst hx; simp [Ne.symm h]
      · rename_i y t e
        rcases List.mem_cons.1 hx with rfl | hx
        · have := ih y (by rw [e]; simp); simp [this, Ne.symm h]
        · exact ih x (by rw [e]; simp [hx])
/-- a line alone -/
theorem phys_one (x : Str) (h : 10 ∉ x) : phys (x ++ [10]) = [x] := by
  induction x with
  | nil => simp [phys]
  | cons c r ih =>
    simp at h
    rw [List.cons_append, phys, if_neg (Ne.symm h.1), ih h.2]
theorem phys_bare (x : Str) (h : 10 ∉ x) (h0 : x ≠ []) : phys x = [x] := by
  induction x with
  | nil => exact absurd rfl h0
  | cons c r ih =>
    simp at h
    rw [phys, if_neg (Ne.symm h.1)]
    by_cases hr : r = []
    · subst hr; simp [phys]
    · rw [ih h.2 hr]

/-- a line that goes on -/
def ends92 (s : Str) : Bool := s.getLast? == some 92
theorem ends_lib (s : Str) : Lib.hasSuffix s [92] = ends92 s := by
  unfold Lib.hasSuffix ends92
  rw [Bool.eq_iff_iff, List.isSuffixOf_iff_suffix, beq_iff_eq]
  constructor
  · rintro ⟨t, rfl⟩; simp
  · intro h
    obtain ⟨t, rfl⟩ := List.getLast?_eq_some_iff.1 h
    exact ⟨t, rfl⟩
theorem trimSuffix_lib (s : Str) : Lib.trimSuffix s [92] = if ends92 s then s.dropLast else s := by
  unfold Lib.trimSuffix
  rw [ends_lib]
  simp [List.dropLast_eq_take]
def joinT : List Str → Str × Nat
  | [] => ([], 0)
  | x :: r => if ends92 (triml x) then (32 :: (triml x).dropLast ++ (joinT r).1, (joinT r).2 + 1) else (32 :: triml x, 1)
/-- the first line with those that continue it; how many they are -/
def joinH : List Str → Str × Nat
  | [] => ([], 0)
  | x :: r => if ends92 x then (x.dropLast ++ (joinT r).1, (joinT r).2 + 1) else (x, 1)
theorem joinT_le : ∀ L : List Str, (joinT L).2 ≤ L.length
  | [] => by simp [joinT]
  | x :: r => by
    have := joinT_le r
    rw [joinT]; split <;> simp <;> omega
theorem joinH_le (L : List Str) : (joinH L).2 ≤ L.length := by
  cases L with
  | nil => simp [joinH]
  | cons x r => have := joinT_le r; rw [joinH]; split <;> simp <;> omega
theorem joinH_pos (x : Str) (r : List Str) : 0 < (joinH (x :: r)).2 := by rw [joinH]; split <;> simp
/-- bytes in all -/
def bulk (L : List Str) : Nat := (L.map fun x => x.length + 1).sum
theorem joinT_len : ∀ L : List Str, (joinT L).1.length ≤ bulk L
  | [] => by simp [joinT]
  | x :: r => by
    have := joinT_len r
    have h2 := triml_le x
    rw [joinT]; unfold bulk at *; split
    · simp; omega
    · simp; omega
theorem joinH_len (L : List Str) : (joinH L).1.length ≤ bulk L := by
  cases L with
  | nil => simp [joinH]
  | cons x r =>
    have := joinT_len r
    rw [joinH]; unfold bulk at *; split
    · simp; omega
    · simp; omega
theorem bulk_phys (s : Str) : bulk (phys s) ≤ s.length + 1 := by
  induction s with
  | nil => simp [phys, bulk]
  | cons c r ih =>
    rw [phys]; unfold bulk at *; split
    · simp; omega
    · split
      · simp
      · rename_i e; rw [e] at ih; simp at ih ⊢; omega
theorem bulk_drop (L : List Str) (k : Nat) : bulk (L.drop k) ≤ bulk L := by
  induction L generalizing k with
  | nil => simp [bulk]
  | cons x r ih =>
    cases k with
    | zero => simp
    | succ k =>
      have h1 := ih k
      have h2 : bulk (x :: r) = x.length + 1 + bulk r := by simp [bulk]
      rw [List.drop_succ_cons, h2]; omega

/-- without its comment; p: behind a backslash -/
def cut1 : Bool → Str → Str
  | _, [] => []
  | p, c :: r => if c = 35 ∧ p = false then [] else c :: cut1 (c == 92) r
def repl : Str → Str
  | [] => []
  | [c] => [c]
  | c :: d :: r => if c = 92 ∧ d = 35 then 35 :: repl r else c :: repl (d :: r)
def unc (s : Str) : Str := trimr (repl (cut1 false s))
/-- with a backslash before each number sign -/
def esc : Str → Str
  | [] => []
  | c :: r => if c = 35 then 92 :: 35 :: esc r else c :: esc r
theorem cut1_le : ∀ (p : Bool) (s : Str), (cut1 p s).length ≤ s.length
  | _, [] => by simp [cut1]
  | p, c :: r => by have := cut1_le (c == 92) r; rw [cut1]; split <;> simp; omega
theorem repl_le : ∀ s : Str, (repl s).length ≤ s.length
  | [] => by simp [repl]
  | [c] => by simp [repl]
  | c :: d :: r => by
    have h1 := repl_le r; have h2 := repl_le (d :: r)
    rw [repl]; split <;> simp at * <;> omega
theorem unc_le (s : Str) : (unc s).length ≤ s.length := Nat.le_trans (trimr_le _) (Nat.le_trans (repl_le _) (cut1_le _ _))
theorem esc_le (s : Str) : (esc s).length ≤ 2 * s.length := by
  induction s with
  | nil => simp [esc]
  | cons c r ih => rw [esc]; split <;> simp <;> omega

/-- ReplaceAll's own recursion -/
theorem rep_hit {old new s : Str} (h0 : old ≠ []) (hn : (old == new) = false) (h : old.isPrefixOf s = true) : Lib.replaceAll s old new = new ++ Lib.replaceAll (s.drop old.length) old new := by
  have hi : Lib.index s old = 0 := by
    cases s with
    | nil => cases old with
      | nil => exact absurd rfl h0
      | cons _ _ => simp [List.isPrefixOf] at h
    | cons c r => rw [Lib.index, h]; simp
  have hc := Lib.count_hit (i := 0) h0 (by simpa using hi)
  unfold Lib.replaceAll Lib.replace Lib.replaceNum
  rw [hn]
  simp only [Bool.false_eq_true, if_false, show ((-1 : Int) < 0) from by decide, true_or, if_true]
  rw [hc, Nat.add_comm, Lib.replaceK_hit old new _ s 0 (by simpa using hi)]
  simp
theorem rep_miss {old new r : Str} {c : UInt8} (h0 : old ≠ []) (hn : (old == new) = false) (h : old.isPrefixOf (c :: r) = false) : Lib.replaceAll (c :: r) old new = c :: Lib.replaceAll r old new := by
  have hi : Lib.index (c :: r) old = if Lib.index r old == -1 then -1 else Lib.index r old + 1 := by rw [Lib.index, h]; simp
  unfold Lib.replaceAll Lib.replace Lib.replaceNum
  rw [hn]
  simp only [Bool.false_eq_true, if_false, show ((-1 : Int) < 0) from by decide, true_or, if_true]
  by_cases hm : Lib.index r old = -1
  · rw [Lib.count_miss hm, Lib.count_miss (by rw [hi, hm]; rfl)]; rfl
  · obtain ⟨i, hr⟩ : ∃ i : Nat, Lib.index r old = i := ⟨(Lib.index r old).toNat, by have := Lib.index_ge r old; omega⟩
    have e1 : ((i : Int) == -1) = false := by apply beq_false_of_ne; omega
    have hi' : Lib.index (c :: r) old = ((i + 1 : Nat) : Int) := by rw [hi, hr, e1]; simp
    rw [Lib.count_hit h0 hr, Lib.count_hit h0 hi', Nat.add_comm 1 (Lib.count (List.drop (i + List.length old) r) old), Nat.add_comm 1 (Lib.count (List.drop (i + 1 + List.length old) (c :: r)) old), Lib.replaceK_hit old new _ r i hr, Lib.replaceK_hit old new _ (c :: r) (i + 1) hi']
    simp [Nat.add_right_comm]
theorem rep_nil (old new : Str) (h0 : old ≠ []) : Lib.replaceAll [] old new = [] := by
  have hi : Lib.index [] old = -1 := by cases old with
    | nil => exact absurd rfl h0
    | cons _ _ => rfl
  unfold Lib.replaceAll Lib.replace Lib.replaceNum
  split
  · rfl
  · simp [Lib.count_miss hi, Lib.replaceK]
theorem repl_lib : ∀ s : Str, Lib.replaceAll s [92, 35] [35] = repl s
  | [] => rep_nil _ _ (by simp)
  | [c] => by
    rw [rep_miss (by simp) (by decide) (by simp [List.isPrefixOf]), rep_nil _ _ (by simp), repl]
  | c :: d :: r => by
    rw [repl]
    by_cases h : c = 92 ∧ d = 35
    · rw [if_pos h, rep_hit (by simp) (by decide) (by simp [List.isPrefixOf, h.1, h.2])]
      simp [repl_lib r]
    · rw [if_neg h, rep_miss (by simp) (by decide) (by
        rw [Bool.eq_false_iff]; intro k; simp [List.isPrefixOf] at k; exact h ⟨k.1.symm, k.2.symm⟩), repl_lib (d :: r)]
theorem esc_lib : ∀ s : Str, Lib.replaceAll s [35] [92, 35] = esc s
  | [] => rep_nil _ _ (by simp)
  | c :: r => by
    rw [esc]
    by_cases h : c = 35
    · rw [if_pos h, rep_hit (by simp) (by decide) (by simp [List.isPrefixOf, h])]
      simp [esc_lib r]
    · rw [if_neg h, rep_miss (by simp) (by decide) (by simp [List.isPrefixOf, Ne.symm h]), esc_lib r]

/-- the logical lines of the physical ones, from the number n on -/
def linesF : Nat → Nat → List Str → List Ln
  | 0, _, _ => []
  | f + 1, n, L => if L = [] then [] else (if unc (joinH L).1 = [] then [] else [(((n + 1 : Nat) : Int), unc (joinH L).1)]) ++ linesF f (n + (joinH L).2) (L.drop (joinH L).2)
def linesAt (n : Nat) (L : List Str) : List Ln := linesF L.length n L
theorem linesF_fuel : ∀ (f : Nat) (n : Nat) (L : List Str), L.length ≤ f → linesF f n L = linesF L.length n L
  | 0, n, L, h => by
    have : L = [] := List.length_eq_zero_iff.1 (by omega)
    subst this; rfl
  | f + 1, n, L, h => by
    cases L with
    | nil => simp [linesF]
    | cons x r =>
      have hp := joinH_pos x r
      simp only [linesF, List.length_cons]
      congr 2
      rw [linesF_fuel f _ _ (by simp at h ⊢; omega)]
      exact (linesF_fuel r.length _ _ (by simp; omega)).symm
  termination_by f => f
  decreasing_by all_goals simp_all <;> omega
theorem linesAt_nil (n : Nat) : linesAt n [] = [] := rfl
theorem linesAt_cons (n : Nat) (L : List Str) (h : L ≠ []) : linesAt n L = (if unc (joinH L).1 = [] then [] else [(((n + 1 : Nat) : Int), unc (joinH L).1)]) ++ linesAt (n + (joinH L).2) (L.drop (joinH L).2) := by
  obtain ⟨x, r, rfl⟩ := List.exists_cons_of_ne_nil h
  have hp := joinH_pos x r
  unfold linesAt
  simp only [List.length_cons]
  rw [linesF, if_neg (by simp)]
  congr 1
  exact linesF_fuel _ _ _ (by simp; omega)

/-- Join's answer -/
def joinR (s : Str) : List Ln × Int := if 20000 < s.length then ([], 2) else if s.all may then (linesAt 0 (phys s), 0) else ([], 3)
end Go.Proofs.YtdencbkepiaigaaDoor
