/-
  The list of a set's numbers as a row in memory: its cells, its order, the set that it makes. No condition.
-/
import Derived.Test.YtodlfklpjnofjaaDoorSorted
namespace Go.Proofs.YtodlfklpjnofjaaDoor
open Go.ChangeShapes Go.WideShapes Go.ChangeAt Go.RowKit

theorem setTo_bit (f : Nat → Int) : ∀ n, InRange f n → ∀ i, i < 64 → ((setTo f n).getLsbD i = true ↔ ∃ k, k < n ∧ f k = (i : Int))
  | 0, _, i, _ => by
    constructor
    · intro h; simp [setTo] at h
    · rintro ⟨k, hk, _⟩; omega
  | n + 1, h, i, hi => by
    have ih := setTo_bit f n (fun k hk => h k (by omega)) i hi
    have hn := h n (by omega)
    show (setTo f n ||| one (f n).toNat).getLsbD i = true ↔ _
    rw [BitVec.getLsbD_or, one_bit _ _ hi, Bool.or_eq_true, ih, decide_eq_true_iff]
    constructor
    · rintro (⟨k, hk, e⟩ | e)
      · exact ⟨k, by omega, e⟩
      · exact ⟨n, by omega, by omega⟩
    · rintro ⟨k, hk, e⟩
      by_cases hkn : k = n
      · right; rw [hkn] at e; omega
      · exact .inl ⟨k, by omega, e⟩

/-- the k-th number of s -/
def numsF (s : Bv) (k : Nat) : Int := (((nums s).getD k 0 : Nat) : Int)
theorem numsF_at (s : Bv) (k : Nat) (h : k < cnt s) : ∃ n : Nat, n < 64 ∧ s.getLsbD n = true ∧ cntTo s.getLsbD n = k ∧ numsF s k = (n : Int) := by
  obtain ⟨n, h1, h2, h3, h4⟩ := nums_get s k h
  exact ⟨n, h1, h2, h3, by unfold numsF; rw [List.getD_eq_getElem?_getD, h4]; rfl⟩
theorem numsF_hit (s : Bv) (n : Nat) (hn : n < 64) (hs : s.getLsbD n = true) : numsF s (cntTo s.getLsbD n) = (n : Int) := by
  unfold numsF; rw [List.getD_eq_getElem?_getD, nums_at s n hn hs]; rfl
theorem numsF_range (s : Bv) : InRange (numsF s) (cnt s) := fun k hk => by
  obtain ⟨n, h1, _, _, h4⟩ := numsF_at s k hk
  omega
theorem numsF_lt (s : Bv) {j k : Nat} (hj : j < k) (hk : k < cnt s) : numsF s j < numsF s k := by
  obtain ⟨m, a1, a2, a3, a4⟩ := numsF_at s j (by omega)
  obtain ⟨n, b1, b2, b3, b4⟩ := numsF_at s k hk
  rw [a4, b4]
  have : m < n := Nat.lt_of_not_le fun h => by
    have := cntTo_mono s.getLsbD h
    omega
  omega
theorem numsF_set (s : Bv) : setTo (numsF s) (cnt s) = s := by
  apply bv_ext
  intro i hi
  have h := setTo_bit (numsF s) (cnt s) (numsF_range s) i hi
  cases hs : s.getLsbD i
  · cases ht : (setTo (numsF s) (cnt s)).getLsbD i
    · rfl
    · obtain ⟨k, hk, e⟩ := h.1 ht
      obtain ⟨n, _, h2, _, h4⟩ := numsF_at s k hk
      have : n = i := by omega
      rw [this, hs] at h2; cases h2
  · exact h.2 ⟨_, cntTo_hit _ hi hs, numsF_hit s i hi hs⟩
/-- the cells of a row that holds the numbers of s -/
theorem numsF_cells {w : World} {base g cap : Nat} (s : Bv) (h : w.ownsRow base 3 1 (.slice (some ⟨g, 0, none⟩) (cnt s) cap) (cnt s) (ints (nums s))) :
    ∀ k, k < cnt s → w.cell? ⟨g, 0 + k, none⟩ = some (.int .i64 (numsF s k)) := fun k hk => by
  rw [Nat.zero_add, h.cellAt k (by omega)]
  obtain ⟨n, _, _, _, h4⟩ := nums_get s k hk
  rw [ints_get _ k n h4]
  unfold numsF; rw [List.getD_eq_getElem?_getD, h4]; rfl
end Go.Proofs.YtodlfklpjnofjaaDoor
