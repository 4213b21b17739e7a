/-
  What package line's uncommented answers. Condition: the string is shorter than 2^32 bytes.
-/
import Derived.Test.YtdencbkepiaigaaDoorLWd
namespace Go.Proofs.YtdencbkepiaigaaDoor
open Go.ChangeShapes Go.WideShapes Go.ChangeAt Go.RowKit

/-- a comment begins at k -/
def Com (p : Bool) (s : Str) (k : Nat) : Prop := s.getD k 0 = 35 ∧ (if k = 0 then p = false else s.getD (k - 1) 0 ≠ 92)
theorem com_succ (c : UInt8) (r : Str) (p : Bool) (k : Nat) : Com p (c :: r) (k + 1) ↔ Com (c == 92) r k := by
  unfold Com
  cases k with
  | zero => simp
  | succ k => simp
theorem cut1_take : ∀ (s : Str) (p : Bool) (k : Nat), k < s.length → (∀ j, j < k → ¬ Com p s j) → Com p s k → cut1 p s = s.take k
  | [], _, _, h, _, _ => by simp at h
  | c :: r, p, 0, _, _, hc => by
    unfold Com at hc
    simp at hc
    simp [cut1, hc]
  | c :: r, p, k + 1, hk, h, hc => by
    have h0 := h 0 (by omega)
    have e : ¬ (c = 35 ∧ p = false) := fun q => h0 (by unfold Com; simp [q])
    rw [cut1, if_neg e, List.take_succ_cons, cut1_take r (c == 92) k (by simpa using hk) (fun j hj q => h (j + 1) (by omega) ((com_succ c r p j).2 q)) ((com_succ c r p k).1 hc)]
theorem cut1_all : ∀ (s : Str) (p : Bool), (∀ j, j < s.length → ¬ Com p s j) → cut1 p s = s
  | [], _, _ => by simp [cut1]
  | c :: r, p, h => by
    have h0 := h 0 (by simp)
    have e : ¬ (c = 35 ∧ p = false) := fun q => h0 (by unfold Com; simp [q])
    rw [cut1, if_neg e, cut1_all r (c == 92) (fun j hj q => h (j + 1) (by simpa using hj) ((com_succ c r p j).2 q))]
theorem bs_take (S : ByteArray) (k : Nat) : S.extract 0 k = bs (S.data.toList.take k) := by
  rw [← bs_of (S.extract 0 k)]
  congr 1
  have := Lib.extract_toList S 0 k
  rw [Lib.toList_data] at this
  rw [List.drop_zero, Nat.sub_zero] at this
  exact this
theorem com_nat (S : ByteArray) (k : Nat) : Com false S.data.toList k ↔ byteAt S k = 35 ∧ (k = 0 ∨ byteAt S (k - 1) ≠ 92) := by
  unfold Com byteAt
  have e : ∀ c d : UInt8, c = d ↔ c.toNat = d.toNat := fun c d => ⟨fun h => by rw [h], UInt8.toNat_inj.1⟩
  by_cases h : k = 0
  · subst h; simp [e]
  · simp [h, e]

end Go.Proofs.YtdencbkepiaigaaDoor
