/-
  Dominators as package dom computes them, in plain words: the numbers that one number dominates, out of rows in which it needs nothing; the dominators of one number, sorted by how many each dominates; the next one before a number. No condition.
-/
import Derived.Test.YtjmomgmbmgdeoaaDoorHDn
import Derived.Sort.Statements
namespace Go.Proofs.YtjmomgmbmgdeoaaDoor
set_option maxRecDepth 100000
set_option linter.unusedVariables false

/-- rows in which a needs nothing -/
def stopR (r : List Bv) (a : Nat) : List Bv := r.set a 0#64
theorem stopR_length (r : List Bv) (a : Nat) : (stopR r a).length = r.length := List.length_set
theorem stopR_at (r : List Bv) (a i : Nat) : wAt (stopR r a) i = if i = a then 0#64 else wAt r i := by
  unfold wAt stopR
  rw [List.getD, List.getElem?_set]
  by_cases h : a = i
  · subst h
    rw [if_pos rfl, if_pos rfl]
    by_cases hl : a < r.length
    · rw [if_pos hl]; rfl
    · rw [if_neg hl]; rfl
  · rw [if_neg h, if_neg (Ne.symm h)]; rfl
theorem stopR_in {r : List Bv} (hr : RowsIn r) (a : Nat) : RowsIn (stopR r a) := by
  refine ⟨by rw [stopR_length]; exact hr.len, fun i k hk => ?_⟩
  rw [stopR_length] at hk
  rw [stopR_at]
  by_cases e : i = a
  · rw [if_pos e]; simp
  · rw [if_neg e]; exact hr.row i k hk
theorem stop_walk {r : List Bv} {a o b : Nat} : Av r a o b ↔ Wk (stopR r a) o b ∧ b ≠ a := by
  constructor
  · intro h
    refine ⟨?_, h.stop⟩
    induction h with
    | refl => exact .refl _
    | step h k hc ih => exact .step ih (by rw [stopR_at, if_neg h.stop]; exact k)
  · rintro ⟨h, hb⟩
    have : Av r a o b ∨ b = a := by
      clear hb
      induction h with
      | refl =>
        by_cases e : o = a
        · exact .inr e
        · exact .inl (.refl _ e)
      | @step b c h k ih =>
        rw [stopR_at] at k
        by_cases e : b = a
        · rw [if_pos e] at k; simp at k
        · rw [if_neg e] at k
          rcases ih with h1 | h1
          · by_cases e2 : c = a
            · exact .inr e2
            · exact .inl (.step h1 k e2)
          · exact absurd h1 e
    exact this.resolve_right hb
theorem notD_bit {s : Bv} {k : Nat} (hk : k < 64) : (~~~s).getLsbD k = true ↔ ¬ s.getLsbD k = true := by
  rw [BitVec.getLsbD_not, decide_eq_true hk, Bool.true_and]
  cases s.getLsbD k <;> simp
theorem oneD_iff {a k : Nat} (ha : a < 64) : (one a).getLsbD k = true ↔ k = a := ⟨one_is, fun e => by subst e; exact one_has ha⟩
/-- the numbers at which walks from o end that keep from a -/
def woW (r : List Bv) (o a : Nat) : Bv := allR (stopR r a) (one o) &&& ~~~one a
/-- the numbers that a dominates -/
def ruW (r : List Bv) (o a : Nat) : Bv := allR r (one o) &&& ~~~woW r o a
theorem ruW_bit {r : List Bv} (hr : RowsIn r) {o a b : Nat} (ho : o < r.length) (ha : a < r.length) : (ruW r o a).getLsbD b = true ↔ Dm r o a b := by
  have hl := hr.len
  have key : b < 64 → ((~~~woW r o a).getLsbD b = true ↔ ¬ Av r a o b) := fun hb => by
    unfold woW
    rw [notD_bit hb, and_bit, notD_bit hb, oneD_iff (by omega), all_one (stopR_in hr a) (by rw [stopR_length]; exact ho), stop_walk]
  unfold ruW
  rw [and_bit, all_one hr ho]
  constructor
  · rintro ⟨h1, h2⟩; exact ⟨h1, (key (bit_lt h2)).1 h2⟩
  · rintro ⟨h1, h2⟩; exact ⟨h1, (key (by have := wk_lt hr h1 ho; omega)).2 h2⟩
/-- for each number the numbers that it dominates -/
def ruL (r : List Bv) (o : Nat) : List Bv := (List.range r.length).map (ruW r o)
theorem ruL_length (r : List Bv) (o : Nat) : (ruL r o).length = r.length := by unfold ruL; rw [List.length_map, List.length_range]
theorem ruL_at {r : List Bv} {o i : Nat} (h : i < r.length) : wAt (ruL r o) i = ruW r o i := by
  unfold wAt ruL
  rw [List.getD, List.getElem?_map, List.getElem?_range h]; rfl
theorem ruL_bit {r : List Bv} (hr : RowsIn r) {o a b : Nat} (ho : o < r.length) : (wAt (ruL r o) a).getLsbD b = true ↔ Dm r o a b := by
  rcases Nat.lt_or_ge a r.length with h | h
  · rw [ruL_at h, ruW_bit hr ho h]
  · rw [wAt_ge (by rw [ruL_length]; exact h)]
    constructor
    · intro k; simp at k
    · intro k; have := dm_lt hr ho k; omega
theorem ruL_less {r : List Bv} (hr : RowsIn r) {o a b : Nat} (ho : o < r.length) (h : Dm r o a b) (hab : a ≠ b) : cnt (wAt (ruL r o) b) < cnt (wAt (ruL r o) a) :=
  cnt_less (fun k hk => (ruL_bit hr ho).2 (h.trans ((ruL_bit hr ho).1 hk))) fun e => by
    have h1 : Dm r o a a := .refl h.on.1
    have h2 := (ruL_bit hr ho).2 h1
    rw [← e] at h2
    exact hab (h.anti ((ruL_bit hr ho).1 h2))

/-! the numbers less than k whose sets hold n -/
def chA (R : List Bv) (n k : Nat) : List Nat := (List.range k).filter fun a => (wAt R a).getLsbD n
theorem chA_zero (R : List Bv) (n : Nat) : chA R n 0 = [] := rfl
theorem chA_yes {R : List Bv} {n k : Nat} (h : (wAt R k).getLsbD n = true) : chA R n (k + 1) = chA R n k ++ [k] := by
  unfold chA
  rw [List.range_succ, List.filter_append, List.filter_cons_of_pos (by simpa using h)]; rfl
theorem chA_no {R : List Bv} {n k : Nat} (h : (wAt R k).getLsbD n = false) : chA R n (k + 1) = chA R n k := by
  unfold chA
  rw [List.range_succ, List.filter_append, List.filter_cons_of_neg (by simp [h])]; simp
theorem chA_mem {R : List Bv} {n k a : Nat} : a ∈ chA R n k ↔ a < k ∧ (wAt R a).getLsbD n = true := by
  unfold chA; rw [List.mem_filter, List.mem_range]
theorem chA_nd (R : List Bv) (n k : Nat) : (chA R n k).Nodup := List.nodup_range.filter _
theorem chA_len (R : List Bv) (n k : Nat) : (chA R n k).length ≤ k := by
  have := List.length_filter_le (fun a => (wAt R a).getLsbD n) (List.range k)
  rwa [List.length_range] at this
/-- sorted, they are the dominators, root first -/
theorem over_sorted {r : List Bv} (hr : RowsIn r) {o n : Nat} (ho : o < r.length) {l : List Nat} (hp : l.Perm (chA (ruL r o) n r.length)) (hs : l.Pairwise fun a b => cnt (wAt (ruL r o) b) ≤ cnt (wAt (ruL r o) a)) : l = overR r o n := by
  have hm : ∀ a, a ∈ l ↔ Dm r o a n := fun a => by
    rw [hp.mem_iff, chA_mem, ruL_bit hr ho]
    exact ⟨fun h => h.2, fun h => ⟨dm_lt hr ho h, h⟩⟩
  refine overR_is hr ho ⟨hm, ?_⟩
  have hnd : l.Nodup := hp.nodup_iff.2 (chA_nd _ _ _)
  refine (List.Pairwise.and hnd hs).imp_of_mem fun {a b} ha hb hab => ?_
  refine ⟨hab.1, ?_⟩
  rcases ((hm a).1 ha).total ((hm b).1 hb) with h | h
  · exact h
  · have := ruL_less hr ho h (Ne.symm hab.1)
    have := hab.2
    omega
/-- how two are held against each other, whatever they are -/
def keyD (R : List Bv) (x : Nat) : Nat := cnt (wAt R (x % R.length))
def cfD (R : List Bv) (x y : Nat) : Int := if keyD R y < keyD R x then -1 else if keyD R x < keyD R y then 1 else 0
theorem sort_over {r : List Bv} (hr : RowsIn r) {o n : Nat} (ho : o < r.length) {d : Array Nat} (hp : Go.Sort.PermIn 0 (chA (ruL r o) n r.length).length (chA (ruL r o) n r.length).toArray d)
    (hs : Go.Sort.SortedIn (fun x y => decide (keyD (ruL r o) y < keyD (ruL r o) x)) 0 (chA (ruL r o) n r.length).length d) : d.toList = overR r o n := by
  generalize hC : chA (ruL r o) n r.length = C at *
  obtain ⟨p1, _, p3⟩ := hp
  have p1' : d.size = C.length := by simpa using p1
  have e1 : d.extract 0 C.length = d := by rw [← p1']; exact Array.extract_size
  have e2 : C.toArray.extract 0 C.length = C.toArray := by
    have : C.length = C.toArray.size := by simp
    rw [this]; exact Array.extract_size
  rw [e1, e2] at p3
  have p3' : d.toList.Perm C := by simpa using p3
  have hlt : ∀ a ∈ d.toList, a < r.length := fun a ha => by
    have := p3'.mem_iff.1 ha
    rw [← hC] at this
    exact (chA_mem.1 this).1
  have hk : ∀ a, a < r.length → keyD (ruL r o) a = cnt (wAt (ruL r o) a) := fun a ha => by
    unfold keyD; rw [ruL_length, Nat.mod_eq_of_lt ha]
  refine over_sorted hr ho (by rw [hC]; exact p3') ?_
  rw [List.pairwise_iff_getElem]
  intro i j hi hj hij
  have hj' : j < d.size := by simpa using hj
  have h := of_decide_eq_false (hs i j (Nat.zero_le _) hij (by omega))
  rw [getElem!_pos d i (by omega), getElem!_pos d j hj', hk _ (hlt _ (Array.getElem_mem_toList _)), hk _ (hlt _ (Array.getElem_mem_toList _))] at h
  simpa using Nat.le_of_not_lt h
/-- the next one before n, out of the dominators of n -/
theorem idom_more {r : List Bv} (hr : RowsIn r) {o n : Nat} (ho : o < r.length) (h : 1 < (overR r o n).length) : idomR r o n = (((overR r o n).getD ((overR r o n).length - 2) 0 : Nat) : Int) := by
  have hO := overR_ok hr ho n
  have hw : Wk r o n := Classical.byContradiction fun hn => by rw [overR_none hr ho hn] at h; simp at h
  obtain ⟨l, hl⟩ := over_end hO hw
  rw [hl] at h hO ⊢
  rw [List.length_append, List.length_singleton] at h
  obtain ⟨q, m, rfl⟩ : ∃ q m, l = q ++ [m] := by
    rcases List.eq_nil_or_concat l with e | ⟨q, m, e⟩
    · subst e; simp at h
    · exact ⟨q, m, by rw [e]; simp⟩
  rw [List.append_assoc] at hO ⊢
  rw [idomR_is (over_idom hO)]
  simp [List.getD]
theorem idom_few {r : List Bv} (hr : RowsIn r) {o n : Nat} (ho : o < r.length) (h : ¬ 1 < (overR r o n).length) : idomR r o n = -1 := by
  by_cases hw : Wk r o n
  · obtain ⟨l, hl⟩ := over_end (overR_ok hr ho n) hw
    have hO := overR_ok hr ho n
    rw [hl] at h hO
    have : l = [] := by
      cases l with
      | nil => rfl
      | cons x l => simp at h
    subst this
    have := (hO.mem o).2 (.root hw)
    rw [List.nil_append, List.mem_singleton] at this
    subst this
    exact idomR_root _ _
  · exact idomR_far hw

/-! faults -/
/-- a number without a row, and what each function hands back -/
noncomputable def rangeC (r : List Bv) (l : List Int) : Int := if ckR r ≠ 0 then ckR r else if ∀ n ∈ l, 0 ≤ n ∧ n < (r.length : Int) then 0 else 4
end Go.Proofs.YtjmomgmbmgdeoaaDoor
