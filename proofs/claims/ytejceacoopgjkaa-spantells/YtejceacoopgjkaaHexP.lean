/-
  Plain facts on sixteen hexadecimal digits and the number that they stand for; nothing of the program. No condition.
-/
import Derived.Laws.FloatArith
namespace Go.Proofs.Ytejceacoopgjkaa

/-- the digit's byte -/
def hexc (d : Nat) : UInt8 := [48, 49, 50, 51, 52, 53, 54, 55, 56, 57, 97, 98, 99, 100, 101, 102].getD d 0
/-- a byte's value as a digit -/
def hv (c : Nat) : Option Nat := if 48 ≤ c ∧ c ≤ 57 then some (c - 48) else if 97 ≤ c ∧ c ≤ 102 then some (c - 97 + 10) else none

theorem hexc_tab (d : Nat) (h : d < (ByteArray.mk #[48, 49, 50, 51, 52, 53, 54, 55, 56, 57, 97, 98, 99, 100, 101, 102]).size) :
    (ByteArray.mk #[48, 49, 50, 51, 52, 53, 54, 55, 56, 57, 97, 98, 99, 100, 101, 102])[d] = hexc d := by
  have key : ∀ d : Fin 16, (ByteArray.mk #[48, 49, 50, 51, 52, 53, 54, 55, 56, 57, 97, 98, 99, 100, 101, 102])[d.val]'d.isLt = hexc d.val := by decide
  exact key ⟨d, h⟩
theorem hv_hexc (d : Nat) (h : d < 16) : hv (hexc d).toNat = some d := by
  have key : ∀ d : Fin 16, hv (hexc d.val).toNat = some d.val := by decide
  exact key ⟨d, h⟩
theorem hv_some {c d : Nat} (h : hv c = some d) : d < 16 ∧ c = (hexc d).toNat := by
  have key : ∀ d : Fin 16, (hexc d.val).toNat = if d.val < 10 then d.val + 48 else d.val + 87 := by decide
  unfold hv at h
  split at h
  · cases h
    have := key ⟨c - 48, by omega⟩
    simp only at this
    rw [this, if_pos (by omega)]; omega
  · split at h
    · cases h
      have := key ⟨c - 97 + 10, by omega⟩
      simp only at this
      rw [this, if_neg (by omega)]; omega
    · cases h

/-- the number of the first k digits -/
def rd (f : Nat → Nat) : Nat → Option Nat
  | 0 => some 0
  | k + 1 => match rd f k, hv (f k) with
    | some u, some d => some (u * 16 + d)
    | _, _ => none
theorem rd_succ {f : Nat → Nat} {k u d : Nat} (h : rd f k = some u) (h2 : hv (f k) = some d) : rd f (k + 1) = some (u * 16 + d) := by
  show (match rd f k, hv (f k) with | some u, some d => some (u * 16 + d) | _, _ => none) = _
  rw [h, h2]
theorem rd_stop {f : Nat → Nat} {k : Nat} (h2 : hv (f k) = none) : rd f (k + 1) = none := by
  show (match rd f k, hv (f k) with | some u, some d => some (u * 16 + d) | _, _ => none) = _
  rw [h2]; cases rd f k <;> rfl
theorem rd_none {f : Nat → Nat} {k : Nat} (h : rd f k = none) : ∀ j, rd f (k + j) = none
  | 0 => h
  | j + 1 => by
    show (match rd f (k + j), hv (f (k + j)) with | some u, some d => some (u * 16 + d) | _, _ => none) = _
    rw [rd_none h j]
theorem rd_inv {f : Nat → Nat} {k v : Nat} (h : rd f (k + 1) = some v) : ∃ u d, rd f k = some u ∧ hv (f k) = some d ∧ v = u * 16 + d := by
  cases hu : rd f k with
  | none => have := rd_none hu 1; rw [this] at h; cases h
  | some u => cases hd : hv (f k) with
    | none => have := rd_stop hd; rw [this] at h; cases h
    | some d => rw [rd_succ hu hd] at h; cases h; exact ⟨u, d, rfl, rfl, rfl⟩
theorem rd_lt {f : Nat → Nat} : ∀ k u, rd f k = some u → u < 16 ^ k
  | 0, u, h => by cases h; decide
  | k + 1, v, h => by
    obtain ⟨u, d, hu, hd, rfl⟩ := rd_inv h
    have := rd_lt k u hu
    have := (hv_some hd).1
    rw [Nat.pow_succ]; omega
theorem pow16_le {k : Nat} (h : k ≤ 16) : 16 ^ k ≤ 18446744073709551616 := Nat.pow_le_pow_right (show 0 < 16 by omega) h
/-- each byte is the digit that the number has there -/
theorem rd_digits {f : Nat → Nat} : ∀ k u, rd f k = some u → ∀ i, i < k → f i = (hexc (u / 16 ^ (k - 1 - i) % 16)).toNat
  | 0, _, _, _, hi => absurd hi (Nat.not_lt_zero _)
  | k + 1, v, h, i, hi => by
    obtain ⟨u, d, hu, hd, rfl⟩ := rd_inv h
    obtain ⟨h16, hc⟩ := hv_some hd
    by_cases e : i = k
    · subst e
      rw [show i + 1 - 1 - i = 0 by omega, Nat.pow_zero, Nat.div_one, show (u * 16 + d) % 16 = d by omega]; exact hc
    · have := rd_digits k u hu i (by omega)
      rw [this, show k + 1 - 1 - i = (k - 1 - i) + 1 by omega, Nat.pow_succ, Nat.mul_comm (16 ^ (k - 1 - i)), ← Nat.div_div_eq_div_mul, show (u * 16 + d) / 16 = u by omega]
/-- the digits of a number are read as the number -/
theorem rd_back {f : Nat → Nat} {U : Nat} (hU : U < 18446744073709551616) (hf : ∀ i, i < 16 → f i = (hexc (U / 16 ^ (15 - i) % 16)).toNat) :
    ∀ k, k ≤ 16 → rd f k = some (U / 16 ^ (16 - k))
  | 0, _ => by rw [Nat.div_eq_of_lt (show U < 16 ^ (16 - 0) from hU)]; rfl
  | k + 1, hk => by
    have h1 := rd_back hU hf k (by omega)
    have h2 : hv (f k) = some (U / 16 ^ (15 - k) % 16) := by rw [hf k (by omega)]; exact hv_hexc _ (Nat.mod_lt _ (by omega))
    rw [rd_succ h1 h2, show 16 - k = (15 - k) + 1 by omega, Nat.pow_succ, ← Nat.div_div_eq_div_mul, show 16 - (k + 1) = 15 - k by omega]
    congr 1; omega

/-- the text of a number -/
def txt (U : Nat) : List UInt8 := (List.range 16).map fun i => hexc (U / 16 ^ (15 - i) % 16)
theorem txt_length (U : Nat) : (txt U).length = 16 := by simp [txt]
theorem txt_get (U i : Nat) (h : i < (txt U).length) : (txt U)[i] = hexc (U / 16 ^ (15 - i) % 16) := by simp [txt]

/-- a string's bytes as numbers -/
def byteAt (s : ByteArray) (k : Nat) : Nat := (s.data.toList.getD k 0).toNat
theorem byteAt_get (s : ByteArray) (k : Nat) (h : k < s.size) : s[k].toNat = byteAt s k := by
  have h' : k < s.data.size := h
  unfold byteAt
  rw [show s[k] = s.data[k] from rfl]
  rw [List.getD, Array.getElem?_toList, Array.getElem?_eq_getElem h']; rfl
theorem txt_of {s : ByteArray} {u : Nat} (hs : s.size = 16) (h : rd (byteAt s) 16 = some u) : s = ⟨(txt u).toArray⟩ := by
  have hl : s.data.toList.length = 16 := hs
  apply ByteArray.ext
  apply Array.toList_inj.1
  apply List.ext_getElem
  · rw [hl]; exact (txt_length u).symm
  · intro i h1 h2
    have hi : i < 16 := by omega
    have := rd_digits 16 u h i hi
    unfold byteAt at this
    have e : s.data.toList.getD i 0 = s.data.toList[i] := by simp only [List.getD, List.getElem?_eq_getElem h1, Option.getD_some]
    rw [e] at this
    have t := txt_get u i (by rw [txt_length]; exact hi)
    show s.data.toList[i] = (txt u)[i]'_
    rw [t]
    exact UInt8.toNat_inj.1 this
theorem rd_txt {U : Nat} (hU : U < 18446744073709551616) : rd (byteAt ⟨(txt U).toArray⟩) 16 = some U := by
  have := rd_back (f := byteAt ⟨(txt U).toArray⟩) hU (fun i hi => by
    unfold byteAt
    have h' : i < (txt U).length := by rw [txt_length]; exact hi
    show ((txt U).getD i 0).toNat = _
    simp only [List.getD, List.getElem?_eq_getElem h', Option.getD_some, txt_get]) 16 (Nat.le_refl _)
  simpa using this
end Go.Proofs.Ytejceacoopgjkaa
