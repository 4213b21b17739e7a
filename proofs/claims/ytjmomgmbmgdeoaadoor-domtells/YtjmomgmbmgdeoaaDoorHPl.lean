/-
  Reachability in plain words: rows of sets, one step on, so many steps on, all that walks come to, rows turned, what lies between. No condition.
-/
import Derived.Test.YtjmomgmbmgdeoaaDoorGPl
namespace Go.Proofs.YtjmomgmbmgdeoaaDoor
set_option maxRecDepth 100000
set_option linter.unusedVariables false

theorem wAt_ge {r : List Bv} {i : Nat} (h : r.length ≤ i) : wAt r i = 0#64 := by
  unfold wAt
  rw [List.getD, List.getElem?_eq_none h]; rfl
theorem wAt_lt {r : List Bv} {i k : Nat} (h : (wAt r i).getLsbD k = true) : i < r.length := by
  rcases Nat.lt_or_ge i r.length with h' | h'
  · exact h'
  · rw [wAt_ge h'] at h; simp at h
theorem bit_lt {s : Bv} {k : Nat} (h : s.getLsbD k = true) : k < 64 := by
  rcases Nat.lt_or_ge k 64 with h' | h'
  · exact h'
  · rw [bit_ge _ h'] at h; cases h
theorem rows_same {a b : List Bv} (hl : a.length = b.length) (h : ∀ i, i < a.length → ∀ k, k < 64 → ((wAt a i).getLsbD k = true ↔ (wAt b i).getLsbD k = true)) : a = b := by
  refine List.ext_getElem hl fun i h1 h2 => ?_
  have e : wAt a i = wAt b i := bv_ext fun k hk => by rw [Bool.eq_iff_iff]; exact h i h1 k hk
  unfold wAt at e
  rw [List.getD, List.getD, List.getElem?_eq_getElem h1, List.getElem?_eq_getElem h2] at e
  exact e

/-! sets within sets -/
def Le (s t : Bv) : Prop := ∀ k, s.getLsbD k = true → t.getLsbD k = true
theorem Le.refl (s : Bv) : Le s s := fun _ h => h
theorem Le.trans {s t u : Bv} (h : Le s t) (k : Le t u) : Le s u := fun i hi => k i (h i hi)
theorem Le.anti {s t : Bv} (h : Le s t) (k : Le t s) : s = t := bv_ext fun i _ => by rw [Bool.eq_iff_iff]; exact ⟨h i, k i⟩
theorem le_or_left (s t : Bv) : Le s (s ||| t) := fun i hi => by rw [BitVec.getLsbD_or, hi]; rfl
theorem le_or_right (s t : Bv) : Le t (s ||| t) := fun i hi => by rw [BitVec.getLsbD_or, hi, Bool.or_true]
theorem or_bit {s t : Bv} {k : Nat} : (s ||| t).getLsbD k = true ↔ s.getLsbD k = true ∨ t.getLsbD k = true := by rw [BitVec.getLsbD_or, Bool.or_eq_true]
theorem and_bit {s t : Bv} {k : Nat} : (s &&& t).getLsbD k = true ↔ s.getLsbD k = true ∧ t.getLsbD k = true := by rw [BitVec.getLsbD_and, Bool.and_eq_true]
theorem le_iff {s t : Bv} : s &&& ~~~t = 0#64 ↔ Le s t := by
  constructor
  · intro h i hi
    have h64 := bit_lt hi
    have e : (s &&& ~~~t).getLsbD i = false := by rw [h]; simp
    rw [BitVec.getLsbD_and, hi, Bool.true_and, BitVec.getLsbD_not, decide_eq_true h64, Bool.true_and] at e
    simpa using e
  · intro h
    refine bv_ext fun i hi => ?_
    rw [BitVec.getLsbD_and, BitVec.getLsbD_not, decide_eq_true hi, Bool.true_and]
    cases hs : s.getLsbD i
    · simp
    · rw [h i hs]; simp
theorem zero_iff {s : Bv} : s = 0#64 ↔ ∀ k, s.getLsbD k = false := by
  constructor
  · rintro rfl k; simp
  · intro h
    exact bv_ext fun i _ => by rw [h i]; simp
theorem nonzero_iff {s : Bv} : s ≠ 0#64 ↔ ∃ k, s.getLsbD k = true := by
  rw [Ne, zero_iff]
  constructor
  · intro h
    exact Classical.byContradiction fun h2 => h fun k => by
      cases hk : s.getLsbD k
      · rfl
      · exact absurd ⟨k, hk⟩ h2
  · rintro ⟨k, hk⟩ h
    rw [h k] at hk; cases hk
/-! how many -/
theorem cntTo_sub {p q : Nat → Bool} : ∀ n, (∀ i, i < n → p i = true → q i = true) → cntTo p n ≤ cntTo q n
  | 0, _ => Nat.le_refl _
  | n + 1, h => by
    have h1 := cntTo_sub n fun i hi => h i (by omega)
    have h2 := h n (by omega)
    unfold cntTo
    cases hp : p n
    · cases hq : q n <;> simp <;> omega
    · rw [h2 hp]; simp; omega
theorem cntTo_less {p q : Nat → Bool} {j : Nat} : ∀ n, j < n → (∀ i, i < n → p i = true → q i = true) → p j = false → q j = true → cntTo p n < cntTo q n
  | 0, hj, _, _, _ => absurd hj (Nat.not_lt_zero _)
  | n + 1, hj, h, h0, h1 => by
    by_cases e : j = n
    · subst e
      have h2 := cntTo_sub j fun i hi => h i (by omega)
      unfold cntTo
      rw [h0, h1]; simp; omega
    · have h2 := cntTo_less n (by omega) (fun i hi => h i (by omega)) h0 h1
      have h3 := h n (by omega)
      unfold cntTo
      cases hp : p n
      · cases hq : q n <;> simp <;> omega
      · rw [h3 hp]; simp; omega
theorem cnt_less {s t : Bv} (h : Le s t) (hne : s ≠ t) : cnt s < cnt t := by
  have : ∃ k, s.getLsbD k = false ∧ t.getLsbD k = true := Classical.byContradiction fun h2 => hne (h.anti fun k hk => by
    cases hs : s.getLsbD k
    · exact absurd ⟨k, hs, hk⟩ h2
    · rfl)
  obtain ⟨k, h0, h1⟩ := this
  exact cntTo_less 64 (bit_lt h1) (fun i _ => h i) h0 h1
theorem cntTo_none {p : Nat → Bool} : ∀ n, (∀ i, i < n → p i = false) → cntTo p n = 0
  | 0, _ => rfl
  | n + 1, h => by
    unfold cntTo
    rw [cntTo_none n fun i hi => h i (by omega), h n (by omega)]; rfl
theorem cnt_setIn {n : Nat} {s : Bv} (hn : n ≤ 64) (h : SetIn n s) : cnt s ≤ n := by
  have e := cntTo_add s.getLsbD n (64 - n)
  rw [show n + (64 - n) = 64 from by omega, cntTo_none (64 - n) fun i _ => h (n + i) (by omega)] at e
  have := cntTo_le s.getLsbD n
  unfold cnt
  omega

/-! one step on, so many steps on -/
/-- s and all that its numbers below m need -/
def stepTo (r : List Bv) (s : Bv) : Nat → Bv
  | 0 => s
  | m + 1 => if s.getLsbD m then stepTo r s m ||| wAt r m else stepTo r s m
def stepR (r : List Bv) (s : Bv) : Bv := stepTo r s r.length
def steps (r : List Bv) (s : Bv) : Nat → Bv
  | 0 => s
  | d + 1 => stepR r (steps r s d)
/-- all that walks from s come to -/
def allR (r : List Bv) (s : Bv) : Bv := steps r s r.length
theorem stepTo_bit (r : List Bv) (s : Bv) (k : Nat) : ∀ m, ((stepTo r s m).getLsbD k = true ↔ s.getLsbD k = true ∨ ∃ i, i < m ∧ s.getLsbD i = true ∧ (wAt r i).getLsbD k = true)
  | 0 => by
    show s.getLsbD k = true ↔ _
    simp
  | m + 1 => by
    have ih := stepTo_bit r s k m
    unfold stepTo
    cases hm : s.getLsbD m
    · rw [if_neg (by simp), ih]
      constructor
      · rintro (h | ⟨i, h1, h2, h3⟩)
        · exact .inl h
        · exact .inr ⟨i, by omega, h2, h3⟩
      · rintro (h | ⟨i, h1, h2, h3⟩)
        · exact .inl h
        · by_cases e : i = m
          · subst e; rw [hm] at h2; cases h2
          · exact .inr ⟨i, by omega, h2, h3⟩
    · rw [if_pos rfl, or_bit, ih]
      constructor
      · rintro ((h | ⟨i, h1, h2, h3⟩) | h)
        · exact .inl h
        · exact .inr ⟨i, by omega, h2, h3⟩
        · exact .inr ⟨m, by omega, hm, h⟩
      · rintro (h | ⟨i, h1, h2, h3⟩)
        · exact .inl (.inl h)
        · by_cases e : i = m
          · subst e; exact .inr h3
          · exact .inl (.inr ⟨i, by omega, h2, h3⟩)
theorem stepR_bit {r : List Bv} {s : Bv} {k : Nat} : (stepR r s).getLsbD k = true ↔ s.getLsbD k = true ∨ ∃ i, s.getLsbD i = true ∧ (wAt r i).getLsbD k = true := by
  unfold stepR
  rw [stepTo_bit]
  constructor
  · rintro (h | ⟨i, _, h2, h3⟩)
    · exact .inl h
    · exact .inr ⟨i, h2, h3⟩
  · rintro (h | ⟨i, h2, h3⟩)
    · exact .inl h
    · exact .inr ⟨i, wAt_lt h3, h2, h3⟩
theorem le_stepR (r : List Bv) (s : Bv) : Le s (stepR r s) := fun k hk => stepR_bit.2 (.inl hk)
theorem stepR_mono {r : List Bv} {s t : Bv} (h : Le s t) : Le (stepR r s) (stepR r t) := fun k hk => by
  rcases stepR_bit.1 hk with h1 | ⟨i, h1, h2⟩
  · exact stepR_bit.2 (.inl (h k h1))
  · exact stepR_bit.2 (.inr ⟨i, h i h1, h2⟩)
theorem stepR_or (r : List Bv) (s t : Bv) : stepR r (s ||| t) = stepR r s ||| stepR r t := by
  refine Le.anti (fun k hk => ?_) (fun k hk => ?_)
  · rw [or_bit]
    rcases stepR_bit.1 hk with h | ⟨i, h1, h2⟩
    · rcases or_bit.1 h with h | h
      · exact .inl (stepR_bit.2 (.inl h))
      · exact .inr (stepR_bit.2 (.inl h))
    · rcases or_bit.1 h1 with h | h
      · exact .inl (stepR_bit.2 (.inr ⟨i, h, h2⟩))
      · exact .inr (stepR_bit.2 (.inr ⟨i, h, h2⟩))
  · rcases or_bit.1 hk with h | h
    · exact stepR_mono (le_or_left s t) k h
    · exact stepR_mono (le_or_right s t) k h
theorem steps_add (r : List Bv) (s : Bv) (i : Nat) : ∀ k, steps r s (i + k) = steps r (steps r s i) k
  | 0 => rfl
  | k + 1 => by
    show stepR r (steps r s (i + k)) = stepR r (steps r (steps r s i) k)
    rw [steps_add r s i k]
theorem steps_mono {r : List Bv} {s t : Bv} (h : Le s t) : ∀ d, Le (steps r s d) (steps r t d)
  | 0 => h
  | d + 1 => stepR_mono (steps_mono h d)
theorem steps_or (r : List Bv) (s t : Bv) : ∀ d, steps r (s ||| t) d = steps r s d ||| steps r t d
  | 0 => rfl
  | d + 1 => by
    show stepR r _ = stepR r _ ||| stepR r _
    rw [steps_or r s t d, stepR_or]
theorem steps_le (r : List Bv) (s : Bv) (d : Nat) : ∀ k, Le (steps r s d) (steps r s (d + k))
  | 0 => Le.refl _
  | k + 1 => (steps_le r s d k).trans (le_stepR r _)
theorem le_steps (r : List Bv) (s : Bv) (d : Nat) : Le s (steps r s d) := by
  have := steps_le r s 0 d
  rwa [Nat.zero_add] at this
theorem steps_fix {r : List Bv} {x : Bv} (h : stepR r x = x) : ∀ d, steps r x d = x
  | 0 => rfl
  | d + 1 => by
    show stepR r (steps r x d) = x
    rw [steps_fix h d, h]
/-- each set that has s and what any of it needs has all -/
theorem steps_least {r : List Bv} {s x : Bv} (h : Le s x) (hx : Le (stepR r x) x) : ∀ d, Le (steps r s d) x
  | 0 => h
  | d + 1 => (stepR_mono (steps_least h hx d)).trans hx

/-! rows of numbers that have rows -/
structure RowsIn (r : List Bv) : Prop where
  len : r.length ≤ 64
  row : ∀ i, SetIn r.length (wAt r i)
theorem stepR_in {r : List Bv} {s : Bv} (hr : RowsIn r) (h : SetIn r.length s) : SetIn r.length (stepR r s) := fun k hk => by
  cases hb : (stepR r s).getLsbD k
  · rfl
  · rcases stepR_bit.1 hb with h1 | ⟨i, _, h2⟩
    · rw [h k hk] at h1; cases h1
    · rw [hr.row i k hk] at h2; cases h2
theorem steps_in {r : List Bv} {s : Bv} (hr : RowsIn r) (h : SetIn r.length s) : ∀ d, SetIn r.length (steps r s d)
  | 0 => h
  | d + 1 => stepR_in hr (steps_in hr h d)
theorem steps_grow (r : List Bv) (s : Bv) : ∀ d, stepR r (steps r s d) = steps r s d ∨ d + 1 ≤ cnt (steps r s (d + 1))
  | 0 => by
    by_cases h : stepR r (steps r s 0) = steps r s 0
    · exact .inl h
    · have := cnt_less (le_stepR r (steps r s 0)) (fun e => h e.symm)
      exact .inr (by show 0 + 1 ≤ cnt (stepR r (steps r s 0)); omega)
  | d + 1 => by
    rcases steps_grow r s d with h | h
    · refine .inl ?_
      show stepR r (stepR r (steps r s d)) = stepR r (steps r s d)
      rw [h, h]
    · by_cases h2 : stepR r (steps r s (d + 1)) = steps r s (d + 1)
      · exact .inl h2
      · have := cnt_less (le_stepR r (steps r s (d + 1))) (fun e => h2 e.symm)
        exact .inr (by show d + 1 + 1 ≤ cnt (stepR r (steps r s (d + 1))); omega)
/-- with as many steps as there are rows all is come to -/
theorem all_fix {r : List Bv} {s : Bv} (hr : RowsIn r) (h : SetIn r.length s) : stepR r (allR r s) = allR r s := by
  rcases steps_grow r s r.length with h1 | h1
  · exact h1
  · have := cnt_setIn hr.len (steps_in hr h (r.length + 1))
    omega
theorem steps_all {r : List Bv} {s : Bv} (hr : RowsIn r) (h : SetIn r.length s) {d : Nat} (hd : r.length ≤ d) : steps r s d = allR r s := by
  rw [show d = r.length + (d - r.length) from by omega, steps_add]
  exact steps_fix (all_fix hr h) _
/-- what is come to for good is all -/
theorem fix_all {r : List Bv} {s : Bv} {d : Nat} (h : stepR r (steps r s d) = steps r s d) (hr : RowsIn r) (hs : SetIn r.length s) : steps r s d = allR r s := by
  have h1 := steps_fix h r.length
  rw [← steps_add] at h1
  rw [← steps_all hr hs (show r.length ≤ d + r.length by omega), h1]
theorem le_all (r : List Bv) (s : Bv) : Le s (allR r s) := le_steps r s _
theorem all_in {r : List Bv} {s : Bv} (hr : RowsIn r) (h : SetIn r.length s) : SetIn r.length (allR r s) := steps_in hr h _
theorem all_or (r : List Bv) (s t : Bv) : allR r (s ||| t) = allR r s ||| allR r t := steps_or r s t _
theorem all_mono {r : List Bv} {s t : Bv} (h : Le s t) : Le (allR r s) (allR r t) := steps_mono h _
theorem all_all {r : List Bv} {s : Bv} (hr : RowsIn r) (h : SetIn r.length s) : allR r (allR r s) = allR r s := steps_fix (all_fix hr h) _
theorem all_least {r : List Bv} {s x : Bv} (h : Le s x) (hx : Le (stepR r x) x) : Le (allR r s) x := steps_least h hx _
theorem le_stepR_iff {r : List Bv} {x : Bv} : Le (stepR r x) x ↔ ∀ i, i < r.length → x.getLsbD i = true → Le (wAt r i) x := by
  constructor
  · intro h i _ hi k hk
    exact h k (stepR_bit.2 (.inr ⟨i, hi, hk⟩))
  · intro h k hk
    rcases stepR_bit.1 hk with h1 | ⟨i, h1, h2⟩
    · exact h1
    · exact h i (wAt_lt h2) h1 k h2
/-- a set that is closed, has s, and lies in all that is come to from s, is all of it -/
theorem all_is {r : List Bv} {s x : Bv} (h1 : Le s x) (h2 : Le (stepR r x) x) (h3 : Le x (allR r s)) : x = allR r s := h3.anti (all_least h1 h2)

/-! walks -/
inductive Wk (r : List Bv) : Nat → Nat → Prop
  | refl (a : Nat) : Wk r a a
  | step {a b c : Nat} : Wk r a b → (wAt r b).getLsbD c = true → Wk r a c
theorem Wk.trans {r : List Bv} {a b c : Nat} (h : Wk r a b) (k : Wk r b c) : Wk r a c := by
  induction k with
  | refl => exact h
  | step _ e ih => exact .step ih e
theorem Wk.one {r : List Bv} {a b : Nat} (h : (wAt r a).getLsbD b = true) : Wk r a b := .step (.refl a) h
theorem steps_walk {r : List Bv} {s : Bv} : ∀ {d k : Nat}, (steps r s d).getLsbD k = true → ∃ i, s.getLsbD i = true ∧ Wk r i k
  | 0, k, h => ⟨k, h, .refl k⟩
  | d + 1, k, h => by
    rcases stepR_bit.1 (show (stepR r (steps r s d)).getLsbD k = true from h) with h1 | ⟨i, h1, h2⟩
    · exact steps_walk h1
    · obtain ⟨j, h3, h4⟩ := steps_walk h1
      exact ⟨j, h3, .step h4 h2⟩
theorem walk_closed {r : List Bv} {x : Bv} (hx : Le (stepR r x) x) {i k : Nat} (hi : x.getLsbD i = true) (h : Wk r i k) : x.getLsbD k = true := by
  induction h with
  | refl => exact hi
  | step _ e ih => exact hx _ (stepR_bit.2 (.inr ⟨_, ih, e⟩))
theorem all_bit {r : List Bv} {s : Bv} (hr : RowsIn r) (h : SetIn r.length s) {k : Nat} : (allR r s).getLsbD k = true ↔ ∃ i, s.getLsbD i = true ∧ Wk r i k := by
  constructor
  · exact steps_walk
  · rintro ⟨i, h1, h2⟩
    exact walk_closed (by rw [all_fix hr h]; exact Le.refl _) (le_all r s i h1) h2
theorem setIn_one {n i : Nat} (h : i < n) (hn : n ≤ 64) : SetIn n (one i) := fun k hk => by
  rcases Nat.lt_or_ge k 64 with h' | h'
  · rw [one_bit _ _ h', decide_eq_false (by omega)]
  · exact bit_ge _ h'
theorem one_is {i k : Nat} (h : (one i).getLsbD k = true) : k = i := by
  have := bit_lt h
  rw [one_bit _ _ this] at h
  exact of_decide_eq_true h
theorem one_has {i : Nat} (h : i < 64) : (one i).getLsbD i = true := by rw [one_bit _ _ h]; exact decide_eq_true rfl
theorem all_one {r : List Bv} (hr : RowsIn r) {i k : Nat} (hi : i < r.length) : (allR r (one i)).getLsbD k = true ↔ Wk r i k := by
  have h64 := hr.len
  rw [all_bit hr (setIn_one hi hr.len)]
  constructor
  · rintro ⟨j, h1, h2⟩
    rw [one_is h1] at h2; exact h2
  · exact fun h => ⟨i, one_has (by omega), h⟩

/-! rows turned -/
def turnR (r : List Bv) : List Bv := rowsTo r.length ((edgesL r).map sw)
theorem turnR_length (r : List Bv) : (turnR r).length = r.length := rowsTo_length _ _
theorem edgesL_rin {r : List Bv} (hr : RowsIn r) : EdIn r.length (edgesL r) := edgesL_in fun i _ k hk => hr.row i k hk
theorem turnR_bit {r : List Bv} (hr : RowsIn r) {i k : Nat} : (wAt (turnR r) i).getLsbD k = true ↔ (wAt r k).getLsbD i = true := by
  have h64 := hr.len
  have key : k < 64 → ((wAt (turnR r) i).getLsbD k = true ↔ (wAt r k).getLsbD i = true) := fun hk => by
    unfold turnR
    rw [rowsTo_bit (edgesL_rin hr).sw i k hk]
    constructor
    · intro h
      obtain ⟨x, h1, h2⟩ := List.mem_map.1 h
      obtain ⟨x1, x2⟩ := x
      have e1 : x2 = (i : Int) := congrArg Prod.fst h2
      have e2 : x1 = (k : Int) := congrArg Prod.snd h2
      subst e1 e2
      exact (edgesL_mem.1 h1).2.2
    · intro h
      exact List.mem_map.2 ⟨((k : Int), (i : Int)), edgesL_mem.2 ⟨wAt_lt h, bit_lt h, h⟩, rfl⟩
  constructor
  · exact fun h => (key (bit_lt h)).1 h
  · exact fun h => (key (by have := wAt_lt h; omega)).2 h
theorem turnR_in {r : List Bv} (hr : RowsIn r) : RowsIn (turnR r) := by
  refine ⟨by rw [turnR_length]; exact hr.len, fun i k hk => ?_⟩
  rw [turnR_length] at hk
  cases hb : (wAt (turnR r) i).getLsbD k
  · rfl
  · have := wAt_lt ((turnR_bit hr).1 hb)
    omega
theorem turn_rows {r t : List Bv} (hr : RowsIn r) (hl : t.length = r.length) (h : ∀ i k, i < r.length → k < 64 → ((wAt t i).getLsbD k = true ↔ (wAt r k).getLsbD i = true)) : t = turnR r := by
  refine rows_same (by rw [hl, turnR_length]) fun i hi k hk => ?_
  rw [h i k (by omega) hk, turnR_bit hr]
theorem turn_turnR {r : List Bv} (hr : RowsIn r) : turnR (turnR r) = r :=
  (turn_rows (turnR_in hr) (turnR_length r).symm fun i k _ _ => (turnR_bit hr).symm).symm
theorem Wk.head {r : List Bv} {a b c : Nat} (h : (wAt r a).getLsbD b = true) (k : Wk r b c) : Wk r a c := (Wk.one h).trans k
theorem Wk.turn {r : List Bv} (hr : RowsIn r) {a b : Nat} (h : Wk r a b) : Wk (turnR r) b a := by
  induction h with
  | refl => exact .refl _
  | step _ e ih => exact Wk.head ((turnR_bit hr).2 e) ih
theorem walk_turn {r : List Bv} (hr : RowsIn r) {a b : Nat} : Wk (turnR r) b a ↔ Wk r a b := by
  constructor
  · intro h
    have := h.turn (turnR_in hr)
    rwa [turn_turnR hr] at this
  · exact fun h => h.turn hr

/-! between -/
def betw (r : List Bv) (a b : Bv) : Bv := allR r a &&& allR (turnR r) b
theorem betw_bit {r : List Bv} {a b : Bv} (hr : RowsIn r) (ha : SetIn r.length a) (hb : SetIn r.length b) {n : Nat} : (betw r a b).getLsbD n = true ↔ (∃ i, a.getLsbD i = true ∧ Wk r i n) ∧ ∃ j, b.getLsbD j = true ∧ Wk r n j := by
  unfold betw
  rw [and_bit, all_bit hr ha, all_bit (turnR_in hr) (by rw [turnR_length]; exact hb)]
  constructor
  · rintro ⟨h1, j, h2, h3⟩; exact ⟨h1, j, h2, (walk_turn hr).1 h3⟩
  · rintro ⟨h1, j, h2, h3⟩; exact ⟨h1, j, h2, (walk_turn hr).2 h3⟩
theorem betw_from {r : List Bv} {a b : Bv} {n : Nat} (h : (betw r a b).getLsbD n = true) : (allR r a).getLsbD n = true := (and_bit.1 h).1
theorem betw_to {r : List Bv} {a b : Bv} (hr : RowsIn r) (ha : SetIn r.length a) (hb : SetIn r.length b) {n : Nat} (h : (betw r a b).getLsbD n = true) : allR r (one n) &&& b ≠ 0#64 := by
  obtain ⟨_, j, h1, h2⟩ := (betw_bit hr ha hb).1 h
  have hn : n < r.length := by
    rcases Nat.lt_or_ge n r.length with h' | h'
    · exact h'
    · have := all_in hr ha n h'
      rw [betw_from h] at this; cases this
  exact nonzero_iff.2 ⟨j, and_bit.2 ⟨(all_one hr hn).2 h2, h1⟩⟩
theorem betw_ends {r : List Bv} {a b : Bv} (hr : RowsIn r) (ha : SetIn r.length a) (hb : SetIn r.length b) : Le (allR r a &&& b) (betw r a b) := fun k hk => by
  obtain ⟨h1, h2⟩ := and_bit.1 hk
  exact and_bit.2 ⟨h1, le_all _ b k h2⟩
theorem betw_some {r : List Bv} {a b : Bv} (hr : RowsIn r) (ha : SetIn r.length a) (hb : SetIn r.length b) : betw r a b ≠ 0#64 ↔ allR r a &&& b ≠ 0#64 := by
  constructor
  · intro h
    obtain ⟨n, hn⟩ := nonzero_iff.1 h
    obtain ⟨⟨i, h1, h2⟩, j, h3, h4⟩ := (betw_bit hr ha hb).1 hn
    exact nonzero_iff.2 ⟨j, and_bit.2 ⟨(all_bit hr ha).2 ⟨i, h1, h2.trans h4⟩, h3⟩⟩
  · intro h
    obtain ⟨k, hk⟩ := nonzero_iff.1 h
    exact nonzero_iff.2 ⟨k, betw_ends hr ha hb k hk⟩

/-! the walks of at least one step -/
def closeR (r : List Bv) : List Bv := r.map (allR r)
theorem closeR_length (r : List Bv) : (closeR r).length = r.length := List.length_map ..
theorem closeR_at {r : List Bv} {i : Nat} (h : i < r.length) : wAt (closeR r) i = allR r (wAt r i) := by
  unfold closeR wAt
  rw [List.getD, List.getElem?_map, List.getElem?_eq_getElem h, List.getD, List.getElem?_eq_getElem h]; rfl
theorem closeR_bit {r : List Bv} (hr : RowsIn r) {i k : Nat} (h : i < r.length) : (wAt (closeR r) i).getLsbD k = true ↔ ∃ j, (wAt r i).getLsbD j = true ∧ Wk r j k := by
  rw [closeR_at h, all_bit hr (hr.row i)]
end Go.Proofs.YtjmomgmbmgdeoaaDoor
