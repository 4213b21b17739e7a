/-
  math/bits.Len64 answers how many bits a word wants. No condition.
-/
import Derived.Test.YtjmomgmbmgdeoaaDoorRows
import Derived.Test.YtjmomgmbmgdeoaaDoorPop
import Derived.WalkKit
import Derived.ProofKit
import Derived.OpenShut
import Derived.Handy
import Derived.BigQuiet
import Derived.Deep.QuietTactic
import Derived.Lib.Hide
import Derived.Lib.Walk
import Derived.Lib.Small
import Derived.Lib.BitFns
namespace Go.Proofs.YtjmomgmbmgdeoaaDoor
set_option maxRecDepth 100000
open Go.ChangeShapes Go.WideShapes Go.ChangeAt Go.RowKit

/-- len is how many bits the number x wants -/
def LenN (x len : Nat) : Prop := x < 2 ^ len ∧ (0 < len → 2 ^ (len - 1) ≤ x)
theorem tab_size : Lib.len8tab.size = 256 := by decide +kernel
theorem tab_len : ∀ i : Fin 256, i.val < 2 ^ (Lib.len8tab.get! i.val).toNat ∧ (0 < (Lib.len8tab.get! i.val).toNat → 2 ^ ((Lib.len8tab.get! i.val).toNat - 1) ≤ i.val) ∧ (Lib.len8tab.get! i.val).toNat ≤ 8 := by decide +kernel
theorem tab_at (i : Nat) (h : i < Lib.len8tab.size) : LenN i (Lib.len8tab[i]).toNat ∧ (Lib.len8tab[i]).toNat ≤ 8 := by
  have e : Lib.len8tab[i] = Lib.len8tab.get! i := by
    show Lib.len8tab.data[i] = Lib.len8tab.data[i]!
    rw [getElem!_pos]
  have t := tab_len ⟨i, by rw [tab_size] at h; exact h⟩
  simp only at t
  rw [← e] at t
  exact ⟨⟨t.1, t.2.1⟩, t.2.2⟩
theorem lenN_shift (x y j l : Nat) (hy : y = x / 2 ^ j) (h : LenN y l) (hj : j = 0 ∨ 0 < y) : LenN x (j + l) := by
  obtain ⟨h1, h2⟩ := h
  have hp : 0 < 2 ^ j := Nat.two_pow_pos j
  subst hy
  constructor
  · rw [Nat.pow_add, Nat.mul_comm]; exact (Nat.div_lt_iff_lt_mul hp).1 h1
  · intro hl
    by_cases hl0 : 0 < l
    · rw [show j + l - 1 = (l - 1) + j by omega, Nat.pow_add]; exact (Nat.le_div_iff_mul_le hp).1 (h2 hl0)
    · exfalso
      have : l = 0 := by omega
      subst this
      simp at h1
      rcases hj with rfl | hj
      · omega
      · have := (Nat.div_eq_zero_iff).2 (Or.inr h1)
        omega
/-- what Len64 hands back -/
def LenPost (x : Nat) (w : World) (e : Ending) (w' : World) : Prop := ∃ len : Nat, e = .returned (.int .i64 len) ∧ LenN x len ∧ len ≤ 64 ∧ w = w'
theorem len_close (x : Nat) (w : World) (j : Nat) (y : Int) (_h0 : 0 ≤ y) (hs : y.toNat < Lib.len8tab.size) (hy : y.toNat = x / 2 ^ j) (hj : j = 0 ∨ 1 ≤ y) (hj' : j ≤ 56) :
    LenPost x w (.returned (.int .i64 (wrap64 ((j : Int) + wrap64 ((Lib.len8tab[y.toNat]).toNat : Int))))) w := by
  obtain ⟨t1, t2⟩ := tab_at y.toNat hs
  refine ⟨j + (Lib.len8tab[y.toNat]).toNat, ?_, lenN_shift x y.toNat j _ hy t1 (by omega), by omega, rfl⟩
  generalize (Lib.len8tab[y.toNat]).toNat = l at *
  have e1 : wrap64 (l : Int) = l := by unfold wrap64; omega
  have e2 : wrap64 ((j : Int) + l) = ((j + l : Nat) : Int) := by unfold wrap64; omega
  rw [e1, e2]

set_option maxHeartbeats 1000000 in
set_option maxRecDepth 100000 in
theorem len_any (x : Int) (w : World) (h0 : 0 ≤ x) (h1 : x ≤ 18446744073709551615) :
    Calls Tryd.prog 57 #[.int .u64 x] w (LenPost x.toNat w) := by
  have hts := tab_size
  go_enter Tryd.func57, Tryd.ntmps57
  go_wp2
  all_goals go_ret
  all_goals first
    | (refine len_close x.toNat w 56 (x / 4294967296 / 65536 / 256) (by omega) (by rw [tab_size]; omega) (by omega) (by omega) (by omega))
    | (refine len_close x.toNat w 48 (x / 4294967296 / 65536) (by omega) (by rw [tab_size]; omega) (by omega) (by omega) (by omega))
    | (refine len_close x.toNat w 40 (x / 4294967296 / 256) (by omega) (by rw [tab_size]; omega) (by omega) (by omega) (by omega))
    | (refine len_close x.toNat w 32 (x / 4294967296) (by omega) (by rw [tab_size]; omega) (by omega) (by omega) (by omega))
    | (refine len_close x.toNat w 24 (x / 65536 / 256) (by omega) (by rw [tab_size]; omega) (by omega) (by omega) (by omega))
    | (refine len_close x.toNat w 16 (x / 65536) (by omega) (by rw [tab_size]; omega) (by omega) (by omega) (by omega))
    | (refine len_close x.toNat w 8 (x / 256) (by omega) (by rw [tab_size]; omega) (by omega) (by omega) (by omega))
    | (have h := len_close x.toNat w 0 x (by omega) (by rw [tab_size]; omega) (by omega) (by omega) (by omega); simpa using h)
end Go.Proofs.YtjmomgmbmgdeoaaDoor
