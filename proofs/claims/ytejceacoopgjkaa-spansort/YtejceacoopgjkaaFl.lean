/-
  Plain facts on float64 by bits: what a word stands for, how two stand to each other, how a number is rounded; nothing of the program. No condition.
-/
import Derived.Laws.FloatArith
namespace Go.Proofs.Ytejceacoopgjkaa

theorem dSign : Ieee.double.signWeight = 9223372036854775808 := by decide
theorem dBin : Ieee.double.binade = 4503599627370496 := by decide
theorem dInf : Ieee.double.infRung = 9218868437227405312 := by decide
theorem dLeast : Ieee.double.leastPlace = -1074 := by decide
theorem dFrac : Ieee.double.fractionBits = 52 := rfl
theorem pow52 : 2 ^ 52 = 4503599627370496 := by decide

/-- what the rung r stands for, counted in the least number of the format (infinity: more than each number) -/
def V (r : Nat) : Nat := if r < 4503599627370496 then r else (4503599627370496 + r % 4503599627370496) * 2 ^ (r / 4503599627370496 - 1)

theorem V_form (E q : Nat) (h1 : q ≤ 9007199254740992) (h2 : E = 0 ∨ 4503599627370496 ≤ q) : V (E * 4503599627370496 + q) = q * 2 ^ E := by
  unfold V
  by_cases hq : q < 4503599627370496
  · have hE : E = 0 := by omega
    subst hE
    rw [if_pos (by omega)]; simp
  · rw [if_neg (by omega)]
    by_cases h3 : q = 9007199254740992
    · subst h3
      rw [show (E * 4503599627370496 + 9007199254740992) % 4503599627370496 = 0 by omega, show (E * 4503599627370496 + 9007199254740992) / 4503599627370496 - 1 = E + 1 by omega, Nat.pow_succ]
      omega
    · rw [show (E * 4503599627370496 + q) % 4503599627370496 = q - 4503599627370496 by omega, show (E * 4503599627370496 + q) / 4503599627370496 - 1 = E by omega,
        show 4503599627370496 + (q - 4503599627370496) = q by omega]

theorem V_split (r : Nat) : ∃ E q, r = E * 4503599627370496 + q ∧ q < 9007199254740992 ∧ (E = 0 ∨ 4503599627370496 ≤ q) := by
  by_cases h : r < 4503599627370496
  · exact ⟨0, r, by omega, by omega, .inl rfl⟩
  · exact ⟨r / 4503599627370496 - 1, 4503599627370496 + r % 4503599627370496, by omega, by omega, .inr (by omega)⟩

theorem V_succ (r : Nat) : V r < V (r + 1) := by
  obtain ⟨E, q, rfl, hq, hE⟩ := V_split r
  rw [V_form E q (by omega) hE, Nat.add_assoc, V_form E (q + 1) (by omega) (by omega), Nat.succ_mul]
  have := Nat.two_pow_pos E
  omega
theorem V_lt {r s : Nat} (h : r < s) : V r < V s := by
  obtain ⟨d, rfl⟩ : ∃ d, s = r + 1 + d := ⟨s - r - 1, by omega⟩
  clear h
  induction d with
  | zero => exact V_succ r
  | succ d ih => exact Nat.lt_trans ih (V_succ _)
theorem V_le {r s : Nat} (h : r ≤ s) : V r ≤ V s := by
  rcases Nat.lt_or_eq_of_le h with h | h
  · exact Nat.le_of_lt (V_lt h)
  · rw [h]; exact Nat.le_refl _
theorem V_lt_iff {r s : Nat} : V r < V s ↔ r < s :=
  ⟨fun h => by rcases Nat.lt_or_ge r s with k | k; exact k; exact absurd (V_le k) (by omega), V_lt⟩
theorem V_le_iff {r s : Nat} : V r ≤ V s ↔ r ≤ s :=
  ⟨fun h => by rcases Nat.lt_or_ge s r with k | k; exact absurd (V_lt k) (by omega); exact k, V_le⟩
theorem V_zero : V 0 = 0 := rfl

/-- with its sign -/
def sg (s : Bool) (n : Nat) : Int := if s then -(n : Int) else (n : Int)
theorem signed_eq (s : Bool) (m k : Nat) : Ieee.signed s m k = sg s (m * 2 ^ k) := by
  unfold Ieee.signed sg; rw [Nat.shiftLeft_eq]
theorem sg_mul (s : Bool) (a c : Nat) : sg s (a * c) = sg s a * (c : Int) := by
  cases s <;> simp [sg, Int.neg_mul]

/-- a word's sign bit, as the model reads it -/
def sb (w : Nat) : Bool := w / 9223372036854775808 % 2 == 1
theorem sb_true {w : Nat} (h : 9223372036854775808 ≤ w) (h' : w < 18446744073709551616) : sb w = true := by
  unfold sb; rw [beq_iff_eq]; omega
theorem sb_false {w : Nat} (h : w < 9223372036854775808) : sb w = false := by
  unfold sb; rw [show w / 9223372036854775808 = 0 by omega]; rfl

theorem read_num (w : Nat) (h : w % 9223372036854775808 < 9218868437227405312) :
    ∃ m e : Nat, Ieee.double.read w = .number (sb w) m ((e : Int) - 1074) ∧ V (w % 9223372036854775808) = m * 2 ^ e ∧ m < 9007199254740992
      ∧ (e = 0 ∧ m = w % 9223372036854775808 ∨ 4503599627370496 ≤ m ∧ w % 9223372036854775808 = e * 4503599627370496 + m) := by
  unfold Ieee.Format.read
  simp only [dSign, dBin, dInf, dLeast]
  by_cases h1 : w % 9223372036854775808 < 4503599627370496
  · rw [if_pos h1]
    refine ⟨w % 9223372036854775808, 0, rfl, ?_, by omega, .inl ⟨rfl, rfl⟩⟩
    unfold V; rw [if_pos h1]; simp
  · rw [if_neg h1, if_pos h]
    refine ⟨4503599627370496 + w % 9223372036854775808 % 4503599627370496, w % 9223372036854775808 / 4503599627370496 - 1, ?_, ?_, by omega, .inr ⟨by omega, by omega⟩⟩
    · rw [show (-1074 : Int) + ((w % 9223372036854775808 / 4503599627370496 - 1 : Nat) : Int) = ((w % 9223372036854775808 / 4503599627370496 - 1 : Nat) : Int) - 1074 by omega]; rfl
    · unfold V; rw [if_neg h1]
theorem read_inf (w : Nat) (h : w % 9223372036854775808 = 9218868437227405312) : Ieee.double.read w = .infinity (sb w) := by
  unfold Ieee.Format.read
  simp only [dSign, dBin, dInf, dLeast]
  rw [if_neg (by omega), if_neg (by omega), if_pos h]; rfl
theorem read_nan (w : Nat) (h : 9218868437227405312 < w % 9223372036854775808) : ∃ f, Ieee.double.read w = .nan (sb w) f := by
  unfold Ieee.Format.read
  simp only [dSign, dBin, dInf, dLeast]
  rw [if_neg (by omega), if_neg (by omega), if_neg (by omega)]; exact ⟨_, rfl⟩

/-- what a word that is no NaN stands for -/
def sv (w : Nat) : Int := sg (sb w) (V (w % 9223372036854775808))
def isN (w : Nat) : Prop := w % 9223372036854775808 ≤ 9218868437227405312
instance (w : Nat) : Decidable (isN w) := inferInstanceAs (Decidable (_ ≤ _))

theorem cmp_def (a b : Int) : compare a b = if a < b then .lt else if a = b then .eq else .gt := rfl
theorem cmp_mul (a b : Int) (c : Nat) (hc : 0 < c) : compare (a * (c : Int)) (b * (c : Int)) = compare a b := by
  have hc' : (0 : Int) < c := by omega
  rw [cmp_def, cmp_def]
  by_cases h : a < b
  · rw [if_pos h, if_pos (Int.mul_lt_mul_of_pos_right h hc')]
  · have h2 : ¬ a * (c : Int) < b * (c : Int) := fun k => h (Int.lt_of_mul_lt_mul_right k (by omega))
    rw [if_neg h, if_neg h2]
    by_cases h3 : a = b
    · rw [if_pos h3, if_pos (by rw [h3])]
    · rw [if_neg h3, if_neg (fun k => h3 (Int.eq_of_mul_eq_mul_right (by omega) k))]

theorem cmp_lt {a b : Int} (h : a < b) : compare a b = .lt := by rw [cmp_def, if_pos h]
theorem cmp_eq {a b : Int} (h : a = b) : compare a b = .eq := by rw [cmp_def, if_neg (by omega), if_pos h]
theorem cmp_gt {a b : Int} (h : b < a) : compare a b = .gt := by rw [cmp_def, if_neg (by omega), if_neg (by omega)]
theorem sg_under (s t : Bool) {a b : Nat} (h : a < b) : compare (sg s a) (sg t b) = if t then .gt else .lt := by
  cases t
  · exact cmp_lt (by cases s <;> simp only [sg, if_true, Bool.false_eq_true, if_false] <;> omega)
  · exact cmp_gt (by cases s <;> simp only [sg, if_true, Bool.false_eq_true, if_false] <;> omega)
theorem sg_over (s t : Bool) {a b : Nat} (h : b < a) : compare (sg s a) (sg t b) = if s then .lt else .gt := by
  cases s
  · exact cmp_gt (by cases t <;> simp only [sg, if_true, Bool.false_eq_true, if_false] <;> omega)
  · exact cmp_lt (by cases t <;> simp only [sg, if_true, Bool.false_eq_true, if_false] <;> omega)
theorem sg_both (s t : Bool) {a : Nat} (h : 0 < a) : compare (sg s a) (sg t a) = compare t.toNat s.toNat := by
  cases s <;> cases t
  · exact cmp_eq rfl
  · exact cmp_gt (by simp only [sg, if_true, Bool.false_eq_true, if_false]; omega)
  · exact cmp_lt (by simp only [sg, if_true, Bool.false_eq_true, if_false]; omega)
  · exact cmp_eq rfl

theorem pow_sub_add {e k : Nat} (h : k ≤ e) : 2 ^ (e - k) * 2 ^ k = 2 ^ e := by
  rw [← Nat.pow_add, Nat.sub_add_cancel h]

theorem order_num (x y : Nat) (hx : isN x) (hy : isN y) : Ieee.double.order x y = some (compare (sv x) (sv y)) := by
  unfold isN at hx hy
  unfold Ieee.Format.order sv
  rcases Nat.lt_or_eq_of_le hx with hx' | hx' <;> rcases Nat.lt_or_eq_of_le hy with hy' | hy'
  · obtain ⟨m, e, h1, h2, _⟩ := read_num x hx'
    obtain ⟨n, f, k1, k2, _⟩ := read_num y hy'
    rw [h1, k1, h2, k2]
    unfold Ieee.Datum.order
    simp only [signed_eq]
    rw [show min ((e : Int) - 1074) ((f : Int) - 1074) = ((min e f : Nat) : Int) - 1074 by omega,
      show ((e : Int) - 1074 - (((min e f : Nat) : Int) - 1074)).toNat = e - min e f by omega,
      show ((f : Int) - 1074 - (((min e f : Nat) : Int) - 1074)).toNat = f - min e f by omega]
    have a1 : m * 2 ^ e = m * 2 ^ (e - min e f) * 2 ^ min e f := by rw [Nat.mul_assoc, pow_sub_add (Nat.min_le_left _ _)]
    have a2 : n * 2 ^ f = n * 2 ^ (f - min e f) * 2 ^ min e f := by rw [Nat.mul_assoc, pow_sub_add (Nat.min_le_right _ _)]
    rw [a1, a2, sg_mul _ _ (2 ^ min e f), sg_mul _ _ (2 ^ min e f), cmp_mul _ _ _ (Nat.two_pow_pos _)]
  · obtain ⟨m, e, h1, _⟩ := read_num x hx'
    rw [h1, read_inf y hy', hy', sg_under _ _ (V_lt hx')]
    rfl
  · obtain ⟨m, e, h1, _⟩ := read_num y hy'
    rw [h1, read_inf x hx', hx', sg_over _ _ (V_lt hy')]
    rfl
  · rw [read_inf x hx', read_inf y hy', hx', hy', sg_both _ _ (V_lt (show 0 < 9218868437227405312 by omega))]
    rfl

theorem order_nan (x y : Nat) (h : ¬ isN x ∨ ¬ isN y) : Ieee.double.order x y = none := by
  unfold isN at h
  unfold Ieee.Format.order
  rcases h with h | h
  · obtain ⟨f, h1⟩ := read_nan x (by omega)
    rw [h1]; cases Ieee.double.read y <;> rfl
  · obtain ⟨f, h1⟩ := read_nan y (by omega)
    rw [h1]; cases Ieee.double.read x <;> rfl

theorem lt_iff (x y : Nat) : (Ieee.double.order x y == some .lt) = decide (isN x ∧ isN y ∧ sv x < sv y) := by
  by_cases h : isN x ∧ isN y
  · rw [order_num x y h.1 h.2, cmp_def]
    by_cases k : sv x < sv y
    · rw [if_pos k]; simp [h, k]
    · rw [if_neg k]; by_cases k2 : sv x = sv y
      · rw [if_pos k2]; simp [k]
      · rw [if_neg k2]; simp [k]
  · rw [order_nan x y (by by_cases a : isN x; exact .inr fun b => h ⟨a, b⟩; exact .inl a)]
    rw [decide_eq_false (fun k => h ⟨k.1, k.2.1⟩)]; rfl
theorem gt_iff (x y : Nat) : (Ieee.double.order x y == some .gt) = decide (isN x ∧ isN y ∧ sv y < sv x) := by
  by_cases h : isN x ∧ isN y
  · rw [order_num x y h.1 h.2, cmp_def]
    by_cases k : sv x < sv y
    · rw [if_pos k]; simp; omega
    · rw [if_neg k]; by_cases k2 : sv x = sv y
      · rw [if_pos k2]; simp; omega
      · rw [if_neg k2]; simp [h]; omega
  · rw [order_nan x y (by by_cases a : isN x; exact .inr fun b => h ⟨a, b⟩; exact .inl a)]
    rw [decide_eq_false (fun k => h ⟨k.1, k.2.1⟩)]; rfl
theorem eq_iff (x y : Nat) : (Ieee.double.order x y == some .eq) = decide (isN x ∧ isN y ∧ sv x = sv y) := by
  by_cases h : isN x ∧ isN y
  · rw [order_num x y h.1 h.2, cmp_def]
    by_cases k : sv x < sv y
    · rw [if_pos k]; simp; omega
    · rw [if_neg k]; by_cases k2 : sv x = sv y
      · rw [if_pos k2]; simp [h, k2]
      · rw [if_neg k2]; simp [k2]
  · rw [order_nan x y (by by_cases a : isN x; exact .inr fun b => h ⟨a, b⟩; exact .inl a)]
    rw [decide_eq_false (fun k => h ⟨k.1, k.2.1⟩)]; rfl

/-- the place of a word in the order by bits -/
def rank (u : Nat) : Nat := if 9223372036854775808 ≤ u then 18446744073709551615 - u else u + 9223372036854775808
theorem rank_inj {u v : Nat} (hu : u < 18446744073709551616) (hv : v < 18446744073709551616) (h : rank u = rank v) : u = v := by
  unfold rank at h; split at h <;> split at h <;> omega
theorem rank_lt {u : Nat} (hu : u < 18446744073709551616) : rank u < 18446744073709551616 := by
  unfold rank; split <;> omega
theorem rank_of_sv {u v : Nat} (hu : u < 18446744073709551616) (hv : v < 18446744073709551616) (h : sv u < sv v) : rank u < rank v := by
  unfold sv at h
  unfold rank
  by_cases a : 9223372036854775808 ≤ u <;> by_cases b : 9223372036854775808 ≤ v
  · rw [sb_true a hu, sb_true b hv] at h
    simp only [sg, if_true] at h
    have := V_lt_iff.1 (show V (v % 9223372036854775808) < V (u % 9223372036854775808) by omega)
    rw [if_pos a, if_pos b]; omega
  · rw [if_pos a, if_neg b]; omega
  · rw [sb_false (by omega), sb_true b hv] at h
    simp [sg] at h
    omega
  · rw [sb_false (by omega), sb_false (by omega)] at h
    simp [sg] at h
    have := V_lt_iff.1 h
    rw [if_neg a, if_neg b]; omega

/-- what Order answers -/
def ord (u v : Nat) : Int := if rank u < rank v then -1 else if rank v < rank u then 1 else 0

/-! rounding -/
theorem cut_even (neg : Bool) (n drop : Nat) : ∃ c : Nat, c ≤ 1 ∧ Ieee.Toward.even.cut neg n drop = n / 2 ^ drop + c ∧ (c = 1 → n % 2 ^ drop ≠ 0) := by
  unfold Ieee.Toward.cut
  simp only [Nat.shiftLeft_eq, Nat.one_mul]
  by_cases h : drop ≤ n.log2 + 2
  · rw [Nat.min_eq_left h]
    refine ⟨_, ?_, rfl, ?_⟩
    · exact Bool.toNat_le _
    · intro hc h0
      have hp := Nat.two_pow_pos drop
      rw [h0] at hc
      simp at hc
  · rw [Nat.min_eq_right (by omega)]
    have hn : n < 2 ^ (n.log2 + 1) := Nat.lt_log2_self
    have h2 : 2 ^ (n.log2 + 2) = 2 * 2 ^ (n.log2 + 1) := by rw [Nat.pow_succ 2 (n.log2 + 1), Nat.mul_comm]
    have h3 : 2 ^ (n.log2 + 2) ≤ 2 ^ drop := Nat.pow_le_pow_right (by omega) (by omega)
    refine ⟨0, by omega, ?_, by omega⟩
    rw [Nat.div_eq_of_lt (show n < 2 ^ (n.log2 + 2) by omega), Nat.div_eq_of_lt (show n < 2 ^ drop by omega), Nat.mod_eq_of_lt (show n < 2 ^ (n.log2 + 2) by omega)]
    have a : (decide (2 ^ (n.log2 + 2) < 2 * n)) = false := decide_eq_false (by omega)
    have b : (2 ^ (n.log2 + 2) == 2 * n) = false := beq_false_of_ne (by omega)
    rw [a, b]; rfl

theorem nearest_form (mag p : Nat) (hm : mag ≠ 0) : ∃ E q c, Ieee.double.nearest false mag ((p : Int) - 1074) = min (E * 4503599627370496 + q + c) 9218868437227405312 ∧ c ≤ 1
    ∧ q < 9007199254740992 ∧ (E = 0 ∨ 4503599627370496 ≤ q) ∧ q * 2 ^ E ≤ mag * 2 ^ p ∧ mag * 2 ^ p < (q + 1) * 2 ^ E ∧ (c = 1 → q * 2 ^ E < mag * 2 ^ p) := by
  unfold Ieee.Format.nearest
  rw [if_neg hm]
  simp only [dBin, dInf, dLeast, dFrac, Ieee.Format.word, Bool.false_eq_true, if_false]
  have hl : 2 ^ mag.log2 ≤ mag := Nat.log2_self_le hm
  have hg : mag < 2 ^ (mag.log2 + 1) := Nat.lt_log2_self
  generalize mag.log2 = L at hl hg
  by_cases h1 : 52 ≤ p + L
  · rw [show max ((p : Int) - 1074 + (L : Int) - ((52 : Nat) : Int)) (-1074) = ((p + L - 52 : Nat) : Int) - 1074 by omega,
      show ((((p + L - 52 : Nat) : Int) - 1074) - -1074).toNat = p + L - 52 by omega]
    by_cases h2 : L ≤ 52
    · rw [show ((p : Int) - 1074 - (((p + L - 52 : Nat) : Int) - 1074)).toNat = 52 - L by omega, show (((p + L - 52 : Nat) : Int) - 1074 - ((p : Int) - 1074)).toNat = 0 by omega, Nat.shiftLeft_eq]
      obtain ⟨c, hc, e, hne⟩ := cut_even false (mag * 2 ^ (52 - L)) 0
      have hc0 : c = 0 := by
        rcases Nat.le_one_iff_eq_zero_or_eq_one.1 hc with h | h
        · exact h
        · exact absurd (Nat.mod_one _) (by simpa using hne h)
      subst hc0
      have e1 : 2 ^ L * 2 ^ (52 - L) = 4503599627370496 := by rw [← Nat.pow_add, show L + (52 - L) = 52 by omega]
      have e2 : 2 ^ (L + 1) * 2 ^ (52 - L) = 9007199254740992 := by rw [← Nat.pow_add, show L + 1 + (52 - L) = 53 by omega]
      have b1 : 2 ^ L * 2 ^ (52 - L) ≤ mag * 2 ^ (52 - L) := Nat.mul_le_mul_right _ hl
      have b2 : mag * 2 ^ (52 - L) < 2 ^ (L + 1) * 2 ^ (52 - L) := Nat.mul_lt_mul_of_pos_right hg (Nat.two_pow_pos _)
      have e3 : mag * 2 ^ (52 - L) * 2 ^ (p + L - 52) = mag * 2 ^ p := by rw [Nat.mul_assoc, ← Nat.pow_add, show 52 - L + (p + L - 52) = p by omega]
      refine ⟨p + L - 52, mag * 2 ^ (52 - L), 0, ?_, by omega, by omega, .inr (by omega), by omega, ?_, by omega⟩
      · rw [e]; simp
      · rw [Nat.succ_mul, e3]; have := Nat.two_pow_pos (p + L - 52); omega
    · rw [show ((p : Int) - 1074 - (((p + L - 52 : Nat) : Int) - 1074)).toNat = 0 by omega, show (((p + L - 52 : Nat) : Int) - 1074 - ((p : Int) - 1074)).toNat = L - 52 by omega, Nat.shiftLeft_eq]
      obtain ⟨c, hc, e, hne⟩ := cut_even false (mag * 2 ^ 0) (L - 52)
      rw [Nat.pow_zero, Nat.mul_one] at e hne ⊢
      have hp := Nat.two_pow_pos (L - 52)
      have e1 : 4503599627370496 * 2 ^ (L - 52) = 2 ^ L := by rw [← pow52, ← Nat.pow_add, show 52 + (L - 52) = L by omega]
      have e2 : 9007199254740992 * 2 ^ (L - 52) = 2 ^ (L + 1) := by rw [Nat.pow_succ, ← e1]; omega
      have b1 : 4503599627370496 ≤ mag / 2 ^ (L - 52) := (Nat.le_div_iff_mul_le hp).2 (by omega)
      have b2 : mag / 2 ^ (L - 52) < 9007199254740992 := (Nat.div_lt_iff_lt_mul hp).2 (by omega)
      have e3 : ∀ q, q * 2 ^ (p + L - 52) = q * 2 ^ (L - 52) * 2 ^ p := fun q => by rw [Nat.mul_assoc, ← Nat.pow_add, show L - 52 + p = p + L - 52 by omega]
      have d := Nat.div_add_mod mag (2 ^ (L - 52))
      have d2 := Nat.mod_lt mag hp
      rw [Nat.mul_comm] at d
      refine ⟨p + L - 52, mag / 2 ^ (L - 52), c, ?_, hc, b2, .inr b1, ?_, ?_, ?_⟩
      · rw [e, ← Nat.add_assoc]
      · rw [e3]; exact Nat.mul_le_mul_right _ (by omega)
      · rw [e3]; exact Nat.mul_lt_mul_of_pos_right (by rw [Nat.succ_mul]; omega) (Nat.two_pow_pos _)
      · intro h; have := hne h
        rw [e3]; exact Nat.mul_lt_mul_of_pos_right (by omega) (Nat.two_pow_pos _)
  · rw [show max ((p : Int) - 1074 + (L : Int) - ((52 : Nat) : Int)) (-1074) = -1074 by omega, show ((-1074 : Int) - -1074).toNat = 0 by omega,
      show ((p : Int) - 1074 - -1074).toNat = p by omega, show ((-1074 : Int) - ((p : Int) - 1074)).toNat = 0 by omega, Nat.shiftLeft_eq]
    obtain ⟨c, hc, e, hne⟩ := cut_even false (mag * 2 ^ p) 0
    have hc0 : c = 0 := by
      rcases Nat.le_one_iff_eq_zero_or_eq_one.1 hc with h | h
      · exact h
      · exact absurd (Nat.mod_one _) (by simpa using hne h)
    subst hc0
    have b2 : mag * 2 ^ p < 2 ^ (L + 1) * 2 ^ p := Nat.mul_lt_mul_of_pos_right hg (Nat.two_pow_pos _)
    have b3 : 2 ^ (L + 1) * 2 ^ p ≤ 4503599627370496 := by rw [← Nat.pow_add, ← pow52]; exact Nat.pow_le_pow_right (by omega) (by omega)
    refine ⟨0, mag * 2 ^ p, 0, ?_, by omega, by omega, .inl rfl, by simp, by simp, by omega⟩
    rw [e]; simp

theorem word_false (r : Nat) : Ieee.double.word false r = r := by unfold Ieee.Format.word; rw [if_neg (by decide)]
theorem nearest_zero (p : Int) : Ieee.double.nearest false 0 p = 0 := by
  unfold Ieee.Format.nearest; rw [if_pos rfl, word_false]
theorem cut_sign (neg : Bool) (n d : Nat) : Ieee.Toward.even.cut neg n d = Ieee.Toward.even.cut false n d := by
  unfold Ieee.Toward.cut; simp only
theorem nearest_neg (neg : Bool) (mag : Nat) (p : Int) : Ieee.double.nearest neg mag p = Ieee.double.word neg (Ieee.double.nearest false mag p) := by
  unfold Ieee.Format.nearest
  by_cases h : mag = 0
  · rw [if_pos h, if_pos h, word_false]
  · rw [if_neg h, if_neg h]
    simp only
    rw [word_false, cut_sign neg]
theorem nearest_ge (r mag p : Nat) (hr : r ≤ 9218868437227405312) (h : V r ≤ mag * 2 ^ p) : r ≤ Ieee.double.nearest false mag ((p : Int) - 1074) := by
  by_cases hm : mag = 0
  · rw [hm, Nat.zero_mul] at h
    have := V_le_iff.1 (show V r ≤ V 0 from h)
    omega
  · obtain ⟨E, q, c, e, hc, hq, hE, h1, h2, h3⟩ := nearest_form mag p hm
    rw [e]
    have a := V_form E (q + 1) (by omega) (by omega)
    rw [← Nat.add_assoc] at a
    have := V_lt_iff.1 (show V r < V (E * 4503599627370496 + q + 1) by omega)
    omega
theorem nearest_le (r mag p : Nat) (h : mag * 2 ^ p ≤ V r) : Ieee.double.nearest false mag ((p : Int) - 1074) ≤ r := by
  by_cases hm : mag = 0
  · rw [hm, nearest_zero]; omega
  · obtain ⟨E, q, c, e, hc, hq, hE, h1, h2, h3⟩ := nearest_form mag p hm
    rw [e]
    have a := V_form E q (by omega) hE
    have b := V_le_iff.1 (show V (E * 4503599627370496 + q) ≤ V r by omega)
    rcases Nat.le_one_iff_eq_zero_or_eq_one.1 hc with h | h
    · omega
    · have := h3 h
      have := V_lt_iff.1 (show V (E * 4503599627370496 + q) < V r by omega)
      omega
theorem nearest_inf (mag p : Nat) : Ieee.double.nearest false mag ((p : Int) - 1074) ≤ 9218868437227405312 := by
  by_cases hm : mag = 0
  · rw [hm, nearest_zero]; omega
  · obtain ⟨E, q, c, e, _⟩ := nearest_form mag p hm
    rw [e]; omega
theorem nearest_eq (r mag p : Nat) (hr : r ≤ 9218868437227405312) (h : mag * 2 ^ p = V r) : Ieee.double.nearest false mag ((p : Int) - 1074) = r :=
  Nat.le_antisymm (nearest_le r mag p (by omega)) (nearest_ge r mag p hr (by omega))

/-- two times that are right: their sum is right, and no less than each -/
theorem add_right (x y : Nat) (hx : x ≤ 9218868437227405312) (hy : y ≤ 9218868437227405312) : ∃ r, Ieee.double.add x y = some r ∧ x ≤ r ∧ y ≤ r ∧ r ≤ 9218868437227405312 := by
  have mx : x % 9223372036854775808 = x := Nat.mod_eq_of_lt (by omega)
  have my : y % 9223372036854775808 = y := Nat.mod_eq_of_lt (by omega)
  have sx : sb x = false := sb_false (by omega)
  have sy : sb y = false := sb_false (by omega)
  unfold Ieee.Format.add
  rcases Nat.lt_or_eq_of_le hx with hx' | hx' <;> rcases Nat.lt_or_eq_of_le hy with hy' | hy'
  · obtain ⟨m, e, h1, h2, _⟩ := read_num x (by omega)
    obtain ⟨n, f, k1, k2, _⟩ := read_num y (by omega)
    rw [mx] at h2; rw [my] at k2
    rw [h1, k1, sx, sy]
    unfold Ieee.Datum.sum
    simp only [signed_eq, Option.map_some]
    rw [show min ((e : Int) - 1074) ((f : Int) - 1074) = ((min e f : Nat) : Int) - 1074 by omega,
      show ((e : Int) - 1074 - (((min e f : Nat) : Int) - 1074)).toNat = e - min e f by omega,
      show ((f : Int) - 1074 - (((min e f : Nat) : Int) - 1074)).toNat = f - min e f by omega]
    have a1 : m * 2 ^ e = m * 2 ^ (e - min e f) * 2 ^ min e f := by rw [Nat.mul_assoc, pow_sub_add (Nat.min_le_left _ _)]
    have a2 : n * 2 ^ f = n * 2 ^ (f - min e f) * 2 ^ min e f := by rw [Nat.mul_assoc, pow_sub_add (Nat.min_le_right _ _)]
    rw [a1] at h2; rw [a2] at k2
    generalize m * 2 ^ (e - min e f) = M at h2 ⊢
    generalize n * 2 ^ (f - min e f) = N at k2 ⊢
    have hs : sg false M + sg false N = ((M + N : Nat) : Int) := by simp [sg]
    have hT : (M + N) * 2 ^ min e f = V x + V y := by rw [h2, k2, Nat.add_mul]
    have hneg : (if sg false M + sg false N = 0 then false && false else decide (sg false M + sg false N < 0)) = false := by
      rw [hs]; split
      · rfl
      · exact decide_eq_false (by omega)
    rw [hneg, hs, Int.natAbs_natCast]
    refine ⟨_, rfl, ?_, ?_, nearest_inf _ _⟩
    · exact nearest_ge x _ _ hx (by omega)
    · exact nearest_ge y _ _ hy (by omega)
  · obtain ⟨m, e, h1, h2, _⟩ := read_num x (by omega)
    rw [h1, read_inf y (by omega), sy]
    refine ⟨9218868437227405312, ?_, by omega, by omega, by omega⟩
    show some (Ieee.double.word false Ieee.double.infRung) = _
    rw [dInf]; rfl
  · obtain ⟨m, e, h1, h2, _⟩ := read_num y (by omega)
    rw [h1, read_inf x (by omega), sx]
    refine ⟨9218868437227405312, ?_, by omega, by omega, by omega⟩
    show some (Ieee.double.word false Ieee.double.infRung) = _
    rw [dInf]; rfl
  · rw [read_inf x (by omega), read_inf y (by omega), sx, sy]
    refine ⟨9218868437227405312, ?_, by omega, by omega, by omega⟩
    show some (Ieee.double.word false Ieee.double.infRung) = _
    rw [dInf]; rfl
end Go.Proofs.Ytejceacoopgjkaa
