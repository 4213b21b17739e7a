/-
  Plain facts on the numbers of a set, in increasing order, and their ranks; nothing of the program. No condition.
-/
import Derived.Test.YtjmomgmbmgdeoaaDoorSub
import Derived.Test.YtjmomgmbmgdeoaaDoorPop
namespace Go.Proofs.YtjmomgmbmgdeoaaDoor
set_option maxRecDepth 100000

theorem cntTo_succ (p : Nat → Bool) (k : Nat) : cntTo p (k + 1) = cntTo p k + if p k then 1 else 0 := rfl
theorem cntTo_mono (p : Nat → Bool) {m n : Nat} (h : m ≤ n) : cntTo p m ≤ cntTo p n := by
  obtain ⟨d, rfl⟩ : ∃ d, n = m + d := ⟨n - m, by omega⟩
  rw [cntTo_add]; omega
theorem cntTo_hit (p : Nat → Bool) {m n : Nat} (h : m < n) (hp : p m = true) : cntTo p m < cntTo p n := by
  have := cntTo_mono p (show m + 1 ≤ n by omega)
  rw [cntTo_succ, hp] at this; simp at this; omega
theorem cntTo_gap (p : Nat → Bool) (m : Nat) : ∀ d, (∀ i, m ≤ i → i < m + d → p i = false) → cntTo p (m + d) = cntTo p m
  | 0, _ => rfl
  | d + 1, h => by
    rw [← Nat.add_assoc, cntTo_succ, h (m + d) (by omega) (by omega), cntTo_gap p m d fun i h1 h2 => h i h1 (by omega)]; simp
theorem cntTo_gap' (p : Nat → Bool) {m n : Nat} (h : m ≤ n) (hp : ∀ i, m ≤ i → i < n → p i = false) : cntTo p n = cntTo p m := by
  have := cntTo_gap p m (n - m) fun i h1 h2 => hp i h1 (by omega)
  rwa [show m + (n - m) = n by omega] at this
theorem cntTo_inj (p : Nat → Bool) {m n : Nat} (hm : p m = true) (hn : p n = true) (h : cntTo p m = cntTo p n) : m = n := by
  rcases Nat.lt_trichotomy m n with c | c | c
  · have := cntTo_hit p c hm; omega
  · exact c
  · have := cntTo_hit p c hn; omega
theorem cntTo_mid (p : Nat → Bool) (j : Nat) : ∀ n, j < cntTo p n → ∃ i, i < n ∧ p i = true ∧ cntTo p i = j
  | 0, h => by simp [cntTo] at h
  | n + 1, h => by
    rw [cntTo_succ] at h
    by_cases hj : j < cntTo p n
    · obtain ⟨i, h1, h2, h3⟩ := cntTo_mid p j n hj
      exact ⟨i, by omega, h2, h3⟩
    · cases hp : p n
      · rw [hp] at h; simp at h; omega
      · rw [hp] at h; simp at h
        exact ⟨n, by omega, hp, by omega⟩
/-- how many numbers of s are below n -/
theorem cnt_low (s : Bv) (n : Nat) (h : n ≤ 64) : cnt (s &&& low n) = cntTo s.getLsbD n := by
  unfold cnt
  have e1 : cntTo (s &&& low n).getLsbD 64 = cntTo (s &&& low n).getLsbD n :=
    cntTo_gap' _ h fun i h1 h2 => by rw [BitVec.getLsbD_and, low_bit n i h2]; simp; omega
  rw [e1]
  exact cntTo_congr n fun i hi => by rw [BitVec.getLsbD_and, low_bit n i (by omega)]; simp [hi]

/-! the numbers below m, in increasing order -/
def numsTo (s : Bv) : Nat → List Nat
  | 0 => []
  | m + 1 => if s.getLsbD m then numsTo s m ++ [m] else numsTo s m
def nums (s : Bv) : List Nat := numsTo s 64
theorem numsTo_length (s : Bv) : ∀ m, (numsTo s m).length = cntTo s.getLsbD m
  | 0 => rfl
  | m + 1 => by
    rw [cntTo_succ, numsTo]
    cases h : s.getLsbD m
    · simp; exact numsTo_length s m
    · simp [numsTo_length s m]
theorem nums_length (s : Bv) : (nums s).length = cnt s := numsTo_length s 64
theorem numsTo_at (s : Bv) (n : Nat) (hs : s.getLsbD n = true) : ∀ m, n < m → (numsTo s m)[cntTo s.getLsbD n]? = some n
  | 0, h => by omega
  | m + 1, h => by
    rw [numsTo]
    by_cases e : n = m
    · subst e
      rw [hs, if_pos rfl, List.getElem?_append_right (by rw [numsTo_length]; omega), numsTo_length]; simp
    · have ih := numsTo_at s n hs m (by omega)
      split
      · rw [List.getElem?_append_left (by rw [numsTo_length]; exact cntTo_hit _ (by omega) hs)]; exact ih
      · exact ih
theorem nums_at (s : Bv) (n : Nat) (hn : n < 64) (hs : s.getLsbD n = true) : (nums s)[cntTo s.getLsbD n]? = some n := numsTo_at s n hs 64 hn
theorem nums_get (s : Bv) (k : Nat) (h : k < cnt s) : ∃ n, n < 64 ∧ s.getLsbD n = true ∧ cntTo s.getLsbD n = k ∧ (nums s)[k]? = some n := by
  obtain ⟨n, h1, h2, h3⟩ := cntTo_mid _ k 64 h
  exact ⟨n, h1, h2, h3, by rw [← h3]; exact nums_at s n h1 h2⟩
/-- one number more, from the front on -/
theorem nums_take (s : Bv) (n : Nat) (hn : n < 64) (hs : s.getLsbD n = true) :
    (nums s).take (cntTo s.getLsbD n + 1) = (nums s).take (cntTo s.getLsbD n) ++ [n] := by
  have h := nums_at s n hn hs
  rw [List.take_add_one, h]; rfl

/-! s without its j least numbers -/
def Least (s : Bv) (n : Nat) : Prop := n < 64 ∧ s.getLsbD n = true ∧ ∀ i, i < n → s.getLsbD i = false
theorem least_unique {s : Bv} {m n : Nat} (hm : Least s m) (hn : Least s n) : m = n := by
  rcases Nat.lt_trichotomy m n with h | h | h
  · have := hn.2.2 m h; rw [hm.2.1] at this; cases this
  · exact h
  · have := hm.2.2 n h; rw [hn.2.1] at this; cases this
/-- s without its least number -/
def rest (s : Bv) : Bv := s &&& (s - 1#64)
def Tail (s : Bv) (j : Nat) (t : Bv) : Prop := ∀ i, i < 64 → t.getLsbD i = (s.getLsbD i && decide (j ≤ cntTo s.getLsbD i))
theorem tail_zero (s : Bv) : Tail s 0 s := fun i _ => by simp
theorem tail_least {s t : Bv} {j n : Nat} (ht : Tail s j t) (hn : Least t n) : s.getLsbD n = true ∧ cntTo s.getLsbD n = j := by
  have h := hn.2.1
  rw [ht n hn.1] at h
  simp at h
  refine ⟨h.1, ?_⟩
  by_cases hlt : j < cntTo s.getLsbD n
  · exfalso
    obtain ⟨i, h1, h2, h3⟩ := cntTo_mid _ j n hlt
    have := hn.2.2 i h1
    have hi := hn.1
    rw [ht i (by omega), h2, h3] at this; simp at this
  · omega
theorem tail_next {s t : Bv} {j n : Nat} (ht : Tail s j t) (hn : Least t n) : Tail s (j + 1) (rest t) := fun i hi => by
  obtain ⟨h1, h2⟩ := tail_least ht hn
  rw [rest, drop_bit t n hn.1 hn.2.1 hn.2.2 i hi, ht i hi]
  cases hs : s.getLsbD i
  · simp
  · by_cases e : i = n
    · subst e; simp; omega
    · have : cntTo s.getLsbD i ≠ j := fun hc => e (cntTo_inj _ hs h1 (by omega))
      have hne : (i != n) = true := by rw [bne_iff_ne]; exact e
      rw [hne]; simp; omega
theorem tail_empty {s t : Bv} {j : Nat} (ht : Tail s j t) : t = 0#64 ↔ cnt s ≤ j := by
  constructor
  · intro e
    apply Nat.le_of_not_lt
    intro hlt
    obtain ⟨i, h1, h2, h3⟩ := cntTo_mid _ j 64 hlt
    have := ht i h1
    rw [e, h2, h3] at this; simp at this
  · intro h
    apply bv_ext
    intro i hi
    rw [ht i hi]
    cases hs : s.getLsbD i
    · simp
    · have := cntTo_hit _ hi hs
      unfold cnt at h
      simp; omega
end Go.Proofs.YtjmomgmbmgdeoaaDoor
