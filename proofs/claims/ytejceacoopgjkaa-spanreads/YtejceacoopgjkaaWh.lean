/-
  Plain facts on the whole part of a float64: by its bits, by the conversion to int64 and back, and what is left; nothing of the program. No condition.
-/
import Derived.Test.YtejceacoopgjkaaFl
namespace Go.Proofs.Ytejceacoopgjkaa

/-- the number 1 (uno), counted in the least number of the format -/
def uno : Nat := 2 ^ 1074
theorem one_pos : 0 < uno := by unfold uno; exact Nat.two_pow_pos 1074
theorem pow_join (a b c : Nat) (h : a + b = c) : 2 ^ a * 2 ^ b = 2 ^ c := by rw [← Nat.pow_add, h]
theorem V_one : V 4607182418800017408 = uno := by
  have := V_form 1022 4503599627370496 (by omega) (.inr (by omega))
  rw [show 1022 * 4503599627370496 + 4503599627370496 = 4607182418800017408 from rfl] at this
  rw [this, ← pow52, pow_join 52 1022 1074 rfl, uno]
theorem V_53 : V 4845873199050653696 = 9007199254740992 * uno := by
  have := V_form 1075 4503599627370496 (by omega) (.inr (by omega))
  rw [show 1075 * 4503599627370496 + 4503599627370496 = 4845873199050653696 from rfl] at this
  rw [this, ← pow52, pow_join 52 1075 1127 rfl, show (9007199254740992 : Nat) = 2 ^ 53 by decide, uno, pow_join 53 1074 1127 rfl]
theorem V_below : V 4607182418800017407 = 9007199254740991 * 2 ^ 1021 :=
  V_form 1021 9007199254740991 (by omega) (.inr (by omega))

/-- the whole part's size, and the whole part -/
def wn (u : Nat) : Nat := V (u % 9223372036854775808) / uno
def wh (u : Nat) : Int := sg (sb u) (wn u)
theorem wn_le {u : Nat} (h : u % 9223372036854775808 ≤ 4845873199050653696) : wn u ≤ 9007199254740992 := by
  unfold wn
  have := V_le h
  rw [V_53] at this
  exact Nat.div_le_of_le_mul (by rw [Nat.mul_comm]; exact this)
theorem wh_bounds {u : Nat} (h : u % 9223372036854775808 ≤ 4845873199050653696) : -9007199254740992 ≤ wh u ∧ wh u ≤ 9007199254740992 := by
  have := wn_le h
  unfold wh sg; split <;> omega

theorem cut_zero (neg : Bool) (n drop : Nat) : Ieee.Toward.zero.cut neg n drop = n / 2 ^ drop := by
  unfold Ieee.Toward.cut
  simp only [Nat.shiftLeft_eq, Nat.one_mul, Bool.toNat_false, Nat.add_zero]
  by_cases h : drop ≤ n.log2 + 2
  · rw [Nat.min_eq_left h]
  · rw [Nat.min_eq_right (by omega)]
    have hn : n < 2 ^ (n.log2 + 1) := Nat.lt_log2_self
    have h2 : 2 ^ (n.log2 + 1) ≤ 2 ^ (n.log2 + 2) := Nat.pow_le_pow_right (by omega) (by omega)
    have h3 : 2 ^ (n.log2 + 2) ≤ 2 ^ drop := Nat.pow_le_pow_right (by omega) (by omega)
    rw [Nat.div_eq_of_lt (show n < 2 ^ (n.log2 + 2) by omega), Nat.div_eq_of_lt (show n < 2 ^ drop by omega)]
theorem shift_div (m e : Nat) : m * 2 ^ (e - 1074) / 2 ^ (1074 - e) = m * 2 ^ e / uno := by
  unfold uno
  by_cases h : 1074 ≤ e
  · rw [show 1074 - e = 0 by omega, Nat.pow_zero, Nat.div_one, ← pow_sub_add h, ← Nat.mul_assoc, Nat.mul_div_cancel _ (Nat.two_pow_pos 1074)]
  · rw [show e - 1074 = 0 by omega, Nat.pow_zero, Nat.mul_one, ← pow_sub_add (show e ≤ 1074 by omega), Nat.mul_div_mul_right _ _ (Nat.two_pow_pos _)]

theorem toInt_eq {u : Nat} (h : u % 9223372036854775808 < 9218868437227405312) : (Ieee.double.read u).toInt .zero = some (wh u) := by
  obtain ⟨m, e, h1, h2, _⟩ := read_num u h
  rw [h1]
  unfold Ieee.Datum.toInt Ieee.Datum.integral
  simp only [cut_zero, signed_eq, Nat.shiftLeft_eq]
  rw [show ((e : Int) - 1074).toNat = e - 1074 by omega, show (-((e : Int) - 1074)).toNat = 1074 - e by omega, shift_div, ← h2, Nat.pow_zero, Nat.mul_one]
  rfl
theorem whole_val {u : Nat} (h : u % 9223372036854775808 ≤ 4845873199050653696) : floatToIntVal .f64 u .i64 = some (wh u) := by
  have hb := wh_bounds h
  unfold floatToIntVal
  show (match (Ieee.double.read u).toInt .zero with | some n => _ | none => _) = _
  rw [toInt_eq (by omega)]
  show (if _ then _ else _) = _
  rw [if_pos ⟨by show (-9223372036854775808 : Int) ≤ _; omega, by show _ ≤ (9223372036854775807 : Int); omega⟩]

/-! back to a float -/
theorem rep (N : Nat) (h : N ≤ 9007199254740992) : ∃ r, V r = N * uno := by
  by_cases h0 : N = 0
  · exact ⟨0, by rw [h0, Nat.zero_mul]; rfl⟩
  · by_cases h1 : N = 9007199254740992
    · exact ⟨_, by rw [h1]; exact V_53⟩
    · have hl : 2 ^ N.log2 ≤ N := Nat.log2_self_le h0
      have hg : N < 2 ^ (N.log2 + 1) := Nat.lt_log2_self
      have hL : N.log2 ≤ 52 := by
        have := (Nat.log2_lt h0 (k := 53)).2 (by rw [show (2 : Nat) ^ 53 = 9007199254740992 by decide]; omega)
        omega
      generalize N.log2 = L at hl hg hL
      have e1 : 2 ^ L * 2 ^ (52 - L) = 4503599627370496 := by rw [← Nat.pow_add, show L + (52 - L) = 52 by omega]
      have e2 : 2 ^ (L + 1) * 2 ^ (52 - L) = 9007199254740992 := by rw [← Nat.pow_add, show L + 1 + (52 - L) = 53 by omega]
      have b1 : 2 ^ L * 2 ^ (52 - L) ≤ N * 2 ^ (52 - L) := Nat.mul_le_mul_right _ hl
      have b2 : N * 2 ^ (52 - L) < 2 ^ (L + 1) * 2 ^ (52 - L) := Nat.mul_lt_mul_of_pos_right hg (Nat.two_pow_pos _)
      refine ⟨(1022 + L) * 4503599627370496 + N * 2 ^ (52 - L), ?_⟩
      rw [V_form _ _ (by omega) (.inr (by omega)), Nat.mul_assoc, ← Nat.pow_add, show 52 - L + (1022 + L) = 1074 by omega, uno]

/-- float64(n) of a whole part: no farther from 0, and exact -/
theorem back {u : Nat} (h : u % 9223372036854775808 ≤ 4845873199050653696) : ∃ r, V r = wn u * uno ∧ r ≤ u % 9223372036854775808 ∧ floatOfInt .f64 (wh u) = Ieee.double.word (decide (wh u < 0)) r := by
  obtain ⟨r, hr⟩ := rep _ (wn_le h)
  have hv : V r ≤ V (u % 9223372036854775808) := by rw [hr]; exact Nat.div_mul_le_self _ _
  have hle := V_le_iff.1 hv
  refine ⟨r, hr, hle, ?_⟩
  show Ieee.double.nearest (decide (wh u < 0)) (wh u).natAbs 0 = _
  have hn : (wh u).natAbs = wn u := by unfold wh sg; split <;> omega
  have := nearest_eq r (wn u) 1074 (by omega) (by rw [hr, uno])
  rw [nearest_neg, hn]
  rw [show ((1074 : Nat) : Int) - 1074 = 0 by omega] at this
  rw [this]
theorem word_mod (s : Bool) {r : Nat} (h : r < 9223372036854775808) : Ieee.double.word s r % 9223372036854775808 = r := by
  unfold Ieee.Format.word; rw [dSign]; split <;> omega
theorem word_sb (s : Bool) {r : Nat} (h : r < 9223372036854775808) : sb (Ieee.double.word s r) = s := by
  unfold Ieee.Format.word; rw [dSign]
  cases s
  · rw [if_neg (by decide)]; exact sb_false h
  · rw [if_pos rfl]; exact sb_true (by omega) (by omega)

theorem left_gen (q z y : Nat) (h : z = 2 * y) : q * z % (4503599627370496 * z) ≤ 9007199254740991 * y := by
  rw [Nat.mul_mod_mul_right]
  have := Nat.mod_lt q (show 0 < 4503599627370496 by omega)
  rw [h, ← Nat.mul_assoc]
  exact Nat.mul_le_mul_right _ (by omega)
theorem two_1022 : 2 ^ 1022 = 2 * 2 ^ 1021 := by rw [← pow_join 1 1021 1022 rfl, Nat.pow_one]
theorem one_1022 : uno = 4503599627370496 * 2 ^ 1022 := by rw [uno, ← pow52, pow_join 52 1022 1074 rfl]
theorem units : ∃ z y, z = 2 * y ∧ uno = 4503599627370496 * z ∧ V 4607182418800017407 = 9007199254740991 * y ∧ ∀ E, 1022 ≤ E → 2 ^ E = 2 ^ (E - 1022) * z :=
  ⟨2 ^ 1022, 2 ^ 1021, two_1022, one_1022, V_below, fun _ h => (pow_sub_add h).symm⟩
/-- what is left is less than 1, and rounds to less than 1 -/
theorem left_le {r : Nat} : V r % uno ≤ V 4607182418800017407 := by
  by_cases h : r < 4607182418800017408
  · have := V_lt h
    rw [V_one] at this
    rw [Nat.mod_eq_of_lt this]; exact V_le (by omega)
  · obtain ⟨E, q, rfl, hq, hE⟩ := V_split r
    obtain ⟨z, y, h1, h2, h3, h4⟩ := units
    rw [V_form E q (by omega) hE, h3, h4 E (by omega), h2, ← Nat.mul_assoc]
    exact left_gen _ _ _ h1

theorem sg_add_opp (s : Bool) {a b : Nat} (h : b ≤ a) : (sg s a + sg (!s) b).natAbs = a - b := by
  cases s <;> simp only [sg, Bool.not_false, Bool.not_true, if_true, Bool.false_eq_true, if_false] <;> omega
theorem sg_add_zero (s t : Bool) (a : Nat) : (sg s a + sg t 0).natAbs = a := by
  cases s <;> cases t <;> simp only [sg, if_true, Bool.false_eq_true, if_false] <;> omega

theorem sub_left {u : Nat} (h : u % 9223372036854775808 ≤ 4845873199050653696) :
    ∃ d, Ieee.double.sub u (floatOfInt .f64 (wh u)) = some d ∧ d % 9223372036854775808 < 4607182418800017408 := by
  obtain ⟨r, hr, hle, hb⟩ := back h
  rw [hb]
  have hr63 : r < 9223372036854775808 := by omega
  obtain ⟨m, e, h1, h2, _⟩ := read_num u (by omega)
  obtain ⟨n, f, k1, k2, _⟩ := read_num (Ieee.double.word (decide (wh u < 0)) r) (by rw [word_mod _ hr63]; omega)
  rw [word_mod _ hr63] at k2
  rw [word_sb _ hr63] at k1
  unfold Ieee.Format.sub
  rw [h1, k1]
  unfold Ieee.Datum.opposite Ieee.Datum.sum
  simp only [signed_eq, Option.map_some]
  rw [show min ((e : Int) - 1074) ((f : Int) - 1074) = ((min e f : Nat) : Int) - 1074 by omega,
    show ((e : Int) - 1074 - (((min e f : Nat) : Int) - 1074)).toNat = e - min e f by omega,
    show ((f : Int) - 1074 - (((min e f : Nat) : Int) - 1074)).toNat = f - min e f by omega]
  have a1 : m * 2 ^ e = m * 2 ^ (e - min e f) * 2 ^ min e f := by rw [Nat.mul_assoc, pow_sub_add (Nat.min_le_left _ _)]
  have a2 : n * 2 ^ f = n * 2 ^ (f - min e f) * 2 ^ min e f := by rw [Nat.mul_assoc, pow_sub_add (Nat.min_le_right _ _)]
  rw [a1] at h2; rw [a2] at k2
  generalize m * 2 ^ (e - min e f) = M at h2 ⊢
  generalize n * 2 ^ (f - min e f) = N at k2 ⊢
  have hp := Nat.two_pow_pos (min e f)
  have hd := Nat.div_add_mod (V (u % 9223372036854775808)) uno
  have hwn : wn u = V (u % 9223372036854775808) / uno := rfl
  rw [← hwn, Nat.mul_comm, ← hr] at hd
  have hX : (sg (sb u) M + sg (!decide (wh u < 0)) N).natAbs * 2 ^ min e f = V (u % 9223372036854775808) % uno := by
    by_cases h0 : wn u = 0
    · have hN : N = 0 := by
        rw [h0, Nat.zero_mul] at hr
        rw [hr] at k2
        rcases Nat.mul_eq_zero.1 k2.symm with k | k
        · exact k
        · omega
      rw [hN, sg_add_zero, ← h2]
      rw [h0, Nat.zero_mul] at hr
      omega
    · have hs : decide (wh u < 0) = sb u := by
        unfold wh sg
        cases sb u
        · rw [if_neg (by decide)]; exact decide_eq_false (by omega)
        · rw [if_pos rfl]; exact decide_eq_true (by omega)
      have hNM : N ≤ M := by
        have : N * 2 ^ min e f ≤ M * 2 ^ min e f := by omega
        exact Nat.le_of_mul_le_mul_right this hp
      rw [hs, sg_add_opp _ hNM, Nat.sub_mul, ← h2, ← k2]
      omega
  generalize sg (sb u) M + sg (!decide (wh u < 0)) N = T at hX ⊢
  refine ⟨_, rfl, ?_⟩
  show Ieee.double.nearest _ _ _ % _ < _
  rw [nearest_neg]
  have := nearest_le 4607182418800017407 T.natAbs (min e f) (by rw [hX]; exact left_le)
  rw [word_mod _ (by omega)]
  omega
end Go.Proofs.Ytejceacoopgjkaa
