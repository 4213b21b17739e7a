/-
  Plain facts on sets of 64 numbers as words of 64 bits; nothing of the program. No condition.
-/
import Derived.Test.YtjmomgmbmgdeoaaDoorRows
import Derived.Laws.Bits64b
import Derived.Laws.BitsAllLaws
namespace Go.Proofs.YtjmomgmbmgdeoaaDoor
set_option maxRecDepth 100000

abbrev Bv := BitVec 64

/-! the model's operations at words -/
theorem bv_lt (s : Bv) : s.toNat < 18446744073709551616 := s.isLt
theorem bv_and (s t : Bv) : bits .and .u64 (s.toNat : Int) (t.toNat : Int) = ((s &&& t).toNat : Int) := by
  rw [bits_and_u64_nat _ _ (bv_lt s) (bv_lt t), BitVec.toNat_and]
theorem bv_or (s t : Bv) : bits .or .u64 (s.toNat : Int) (t.toNat : Int) = ((s ||| t).toNat : Int) := by
  rw [bits_or_u64_nat _ _ (bv_lt s) (bv_lt t), BitVec.toNat_or]
theorem bv_xor (s t : Bv) : bits .xor .u64 (s.toNat : Int) (t.toNat : Int) = ((s ^^^ t).toNat : Int) := by
  rw [bits_xor_u64_nat _ _ (bv_lt s) (bv_lt t), BitVec.toNat_xor]
theorem bv_of (s : Bv) : BitVec.ofInt 64 (s.toNat : Int) = s := by
  apply BitVec.eq_of_toNat_eq
  rw [BitVec.ofInt_natCast, BitVec.toNat_ofNat]; exact Nat.mod_eq_of_lt s.isLt
theorem bv_wrap (s : Bv) : IntKind.u64.wrap (s.toNat : Int) = (s.toNat : Int) := by
  rw [IntKind.wrap_u64]; have := bv_lt s; omega
theorem bv_andNot (s t : Bv) : bits .andNot .u64 (s.toNat : Int) (t.toNat : Int) = ((s &&& ~~~t).toNat : Int) := by
  show IntKind.u64.wrap ((BitVec.ofInt 64 (s.toNat : Int) &&& ~~~BitVec.ofInt 64 (t.toNat : Int)).toNat : Int) = _
  rw [bv_of, bv_of, bv_wrap]
theorem bv_not (s : Bv) : bits .xor .u64 18446744073709551615 (s.toNat : Int) = ((~~~s).toNat : Int) := by
  show IntKind.u64.wrap ((BitVec.ofInt 64 18446744073709551615 ^^^ BitVec.ofInt 64 (s.toNat : Int)).toNat : Int) = _
  rw [bv_of, bv_wrap, show BitVec.ofInt 64 18446744073709551615 = BitVec.allOnes 64 by decide, BitVec.allOnes_xor]
theorem bv_add_one (s : Bv) : IntKind.u64.wrap ((s.toNat : Int) + 1) = ((s + 1#64).toNat : Int) := by
  rw [IntKind.wrap_u64, BitVec.toNat_add]; simp
theorem bv_sub_one (s : Bv) : IntKind.u64.wrap ((s.toNat : Int) - 1) = ((s - 1#64).toNat : Int) := by
  rw [IntKind.wrap_u64, BitVec.toNat_sub]; have := bv_lt s; simp; omega
theorem bv_shl (s : Bv) (k : Nat) : IntKind.u64.wrap ((s.toNat : Int) * 2 ^ k) = ((s <<< k).toNat : Int) := by
  rw [IntKind.wrap_u64, BitVec.toNat_shiftLeft, Nat.shiftLeft_eq]; simp
theorem bv_shr (s : Bv) (k : Nat) : (s.toNat : Int) / 2 ^ k = ((s >>> k).toNat : Int) := by
  rw [BitVec.toNat_ushiftRight, Nat.shiftRight_eq_div_pow]; simp

/-- the least and the greatest number at which a test says yes -/
theorem least (p : Nat → Bool) : ∀ N, (∀ i, i < N → p i = false) ∨ ∃ n, n < N ∧ p n = true ∧ ∀ i, i < n → p i = false
  | 0 => .inl fun _ h => absurd h (Nat.not_lt_zero _)
  | N + 1 => by
    rcases least p N with h | ⟨n, hn, h1, h2⟩
    · cases hp : p N
      · left; intro i hi
        rcases Nat.lt_succ_iff_lt_or_eq.1 hi with h' | h'
        · exact h i h'
        · rw [h']; exact hp
      · exact .inr ⟨N, by omega, hp, h⟩
    · exact .inr ⟨n, by omega, h1, h2⟩
theorem greatest (p : Nat → Bool) : ∀ N, (∀ i, i < N → p i = false) ∨ ∃ n, n < N ∧ p n = true ∧ ∀ i, n < i → i < N → p i = false
  | 0 => .inl fun _ h => absurd h (Nat.not_lt_zero _)
  | N + 1 => by
    cases hp : p N
    · rcases greatest p N with h | ⟨n, hn, h1, h2⟩
      · left; intro i hi
        rcases Nat.lt_succ_iff_lt_or_eq.1 hi with h' | h'
        · exact h i h'
        · rw [h']; exact hp
      · refine .inr ⟨n, by omega, h1, fun i h3 h4 => ?_⟩
        rcases Nat.lt_succ_iff_lt_or_eq.1 h4 with h' | h'
        · exact h2 i h3 h'
        · rw [h']; exact hp
    · exact .inr ⟨N, by omega, hp, fun i h1 h2 => by omega⟩

theorem bv_ext {s t : Bv} (h : ∀ i, i < 64 → s.getLsbD i = t.getLsbD i) : s = t := BitVec.eq_of_getLsbD_eq fun i hi => h i hi
theorem bit_ge (s : Bv) {i : Nat} (h : 64 ≤ i) : s.getLsbD i = false := BitVec.getLsbD_of_ge s i h

/-- one more: the lowest number that is not in it comes in, all below go -/
theorem add_one_bit (G : Bv) (n : Nat) (hn : n < 64) (h0 : G.getLsbD n = false) (h1 : ∀ i, i < n → G.getLsbD i = true) (i : Nat) (hi : i < 64) :
    (G + 1#64).getLsbD i = if i < n then false else if i = n then true else G.getLsbD i := by
  have hb : ∀ j, G.toNat.testBit j = G.getLsbD j := fun _ => rfl
  have hm : G.toNat % 2 ^ n = 2 ^ n - 1 := by
    apply Nat.eq_of_testBit_eq
    intro j
    rw [Nat.testBit_mod_two_pow, Nat.testBit_two_pow_sub_one, hb]
    by_cases hj : j < n
    · simp [hj, h1 j hj]
    · simp [hj]
  have he : G.toNat / 2 ^ n % 2 = 0 := by
    have h := hb n
    rw [h0, Nat.testBit_eq_decide_div_mod_eq] at h
    have := of_decide_eq_false h
    omega
  have hp : 0 < 2 ^ n := Nat.two_pow_pos n
  have hs : G.toNat + 1 = (G.toNat / 2 ^ n + 1) * 2 ^ n := by
    have := Nat.div_add_mod G.toNat (2 ^ n)
    rw [hm, Nat.mul_comm] at this
    rw [Nat.add_mul, Nat.one_mul]; omega
  have hor : G.toNat / 2 ^ n + 1 = G.toNat / 2 ^ n ||| 1 := by
    obtain ⟨q, hq⟩ : ∃ q, G.toNat / 2 ^ n = 2 * q := ⟨G.toNat / 2 ^ n / 2, by omega⟩
    rw [hq]
    apply Nat.eq_of_testBit_eq
    intro j
    rw [Nat.testBit_or]
    cases j with
    | zero => simp [Nat.testBit_zero]
    | succ j => simp [Nat.testBit_succ]; rw [show (2 * q + 1) / 2 = q by omega]
  have ht : (G + 1#64).getLsbD i = (G.toNat + 1).testBit i := by
    show (G + 1#64).toNat.testBit i = _
    rw [BitVec.toNat_add]
    show ((G.toNat + 1) % 2 ^ 64).testBit i = _
    rw [Nat.testBit_mod_two_pow]; simp [hi]
  rw [ht, hs, hor, Nat.testBit_mul_two_pow, Nat.testBit_or, Nat.testBit_div_two_pow]
  by_cases c1 : i < n
  · simp [c1]; omega
  · by_cases c2 : i = n
    · subst c2; simp
    · have c3 : n ≤ i := by omega
      have c4 : (1 : Nat).testBit (i - n) = false := by
        rw [Nat.testBit_eq_decide_div_mod_eq]
        have : 1 < 2 ^ (i - n) := Nat.one_lt_two_pow (by omega)
        rw [Nat.div_eq_of_lt this]; rfl
      rw [c4, show i - n + n = i by omega, hb]
      simp [c1, c2, c3]
theorem add_one_all (G : Bv) (h : ∀ i, i < 64 → G.getLsbD i = true) : G + 1#64 = 0#64 := by
  have : G = BitVec.allOnes 64 := bv_ext fun i hi => by rw [h i hi, BitVec.getLsbD_allOnes]; simp [hi]
  rw [this]; decide
theorem sub_one_not (s : Bv) : s - 1#64 = ~~~(~~~s + 1#64) := by
  apply BitVec.eq_of_toNat_eq
  rw [BitVec.toNat_sub, BitVec.toNat_not, BitVec.toNat_add, BitVec.toNat_not]
  have := s.isLt
  simp only [BitVec.toNat_ofNat]
  omega
/-- the lowest number leaves: s without it -/
theorem drop_bit (s : Bv) (n : Nat) (hn : n < 64) (h1 : s.getLsbD n = true) (h0 : ∀ i, i < n → s.getLsbD i = false) (i : Nat) (hi : i < 64) :
    (s &&& (s - 1#64)).getLsbD i = (s.getLsbD i && i != n) := by
  have h := add_one_bit (~~~s) n hn (by simp [hn, h1]) (fun j hj => by simp [h0 j hj]; omega) i hi
  rw [BitVec.getLsbD_and, sub_one_not, BitVec.getLsbD_not, h]
  by_cases c1 : i < n
  · simp [c1, h0 i c1]
  · by_cases c2 : i = n
    · subst c2; simp
    · simp [c1, c2, hi]

/-! order, by the highest number at which two sets part -/
theorem nat_lt_bit {x y : Nat} (i : Nat) (hx : x.testBit i = false) (hy : y.testBit i = true) (h : ∀ j, i < j → x.testBit j = y.testBit j) : x < y := by
  have hq : x / 2 ^ (i + 1) = y / 2 ^ (i + 1) := by
    apply Nat.eq_of_testBit_eq
    intro j
    rw [Nat.testBit_div_two_pow, Nat.testBit_div_two_pow]
    exact h _ (by omega)
  rw [Nat.testBit_eq_decide_div_mod_eq] at hx hy
  have hx := of_decide_eq_false hx
  have hy := of_decide_eq_true hy
  rw [Nat.pow_succ, ← Nat.div_div_eq_div_mul, ← Nat.div_div_eq_div_mul] at hq
  have hp : 0 < 2 ^ i := Nat.two_pow_pos i
  have h1 : x / 2 ^ i < y / 2 ^ i := by omega
  exact Nat.lt_of_not_le fun hle => by
    have := Nat.div_le_div_right (c := 2 ^ i) hle
    omega
theorem lt_of_bit {x y : Bv} (i : Nat) (hx : x.getLsbD i = false) (hy : y.getLsbD i = true) (h : ∀ j, i < j → x.getLsbD j = y.getLsbD j) : x.toNat < y.toNat :=
  nat_lt_bit i hx hy h
theorem bit_of_lt {x y : Bv} (h : x.toNat < y.toNat) : ∃ i, i < 64 ∧ x.getLsbD i = false ∧ y.getLsbD i = true ∧ ∀ j, i < j → x.getLsbD j = y.getLsbD j := by
  rcases greatest (fun i => x.getLsbD i != y.getLsbD i) 64 with h1 | ⟨n, hn, h1, h2⟩
  · exfalso
    have : x = y := bv_ext fun i hi => by simpa using h1 i hi
    rw [this] at h; omega
  · have h3 : ∀ j, n < j → x.getLsbD j = y.getLsbD j := fun j hj => by
      by_cases hj' : j < 64
      · simpa using h2 j hj hj'
      · rw [bit_ge x (by omega), bit_ge y (by omega)]
    cases hx : x.getLsbD n <;> cases hy : y.getLsbD n <;> simp [hx, hy] at h1
    · exact ⟨n, hn, hx, hy, h3⟩
    · have := lt_of_bit n hy hx (fun j hj => (h3 j hj).symm)
      omega

/-! Below -/
def low (n : Nat) : Bv := BitVec.ofNat 64 (2 ^ n - 1)
theorem low_bit (n i : Nat) (hi : i < 64) : (low n).getLsbD i = decide (i < n) := by
  unfold low
  rw [BitVec.getLsbD_ofNat, Nat.testBit_two_pow_sub_one]; simp [hi]
def one (n : Nat) : Bv := BitVec.ofNat 64 (2 ^ n)
theorem one_bit (n i : Nat) (hi : i < 64) : (one n).getLsbD i = decide (i = n) := by
  unfold one
  rw [BitVec.getLsbD_ofNat, Nat.testBit_two_pow]; simp [hi]; exact ⟨fun h => h.symm, fun h => h.symm⟩
theorem one_toNat (n : Nat) (h : n < 64) : (one n).toNat = 2 ^ n := by
  unfold one
  rw [BitVec.toNat_ofNat]; exact Nat.mod_eq_of_lt (Nat.pow_lt_pow_right (by omega) h)
theorem low_toNat (n : Nat) (h : n ≤ 64) : (low n).toNat = 2 ^ n - 1 := by
  unfold low
  rw [BitVec.toNat_ofNat]
  have : 2 ^ n ≤ 2 ^ 64 := Nat.pow_le_pow_right (by omega) h
  have hp : 0 < 2 ^ n := Nat.two_pow_pos n
  exact Nat.mod_eq_of_lt (by omega)

/-! Sub: the next subset -/
/-- n is where t may be raised within s: s has it, t has not, and t's numbers above it are in s -/
def Cand (s t : Bv) (n : Nat) : Prop := s.getLsbD n = true ∧ t.getLsbD n = false ∧ ∀ j, n < j → t.getLsbD j = true → s.getLsbD j = true
/-- u is t raised at n: t's numbers above n, n, and none below -/
def Raised (t u : Bv) (n : Nat) : Prop := ∀ i, i < 64 → u.getLsbD i = if i < n then false else if i = n then true else t.getLsbD i
/-- u is the next subset of s behind t; 0: there is none -/
def NextOf (s t u : Bv) : Prop := (u = 0#64 ∧ ∀ n, n < 64 → ¬ Cand s t n) ∨ ∃ n, n < 64 ∧ Cand s t n ∧ (∀ i, i < n → ¬ Cand s t i) ∧ Raised t u n

def gw (s t : Bv) (len : Nat) : Bv := if t &&& ~~~s = 0#64 then t else t &&& ~~~low len ||| s &&& low len
def subOf (s g : Bv) : Bv := (g ||| ~~~s) + 1#64 &&& s

/-- len is how many bits x wants -/
def IsLen (x : Bv) (len : Nat) : Prop := len ≤ 64 ∧ (∀ i, len ≤ i → x.getLsbD i = false) ∧ (0 < len → x.getLsbD (len - 1) = true)

theorem subOf_next (s g : Bv) (hg : ∀ i, g.getLsbD i = true → s.getLsbD i = true) :
    (subOf s g = 0#64 ∧ ∀ i, i < 64 → s.getLsbD i = true → g.getLsbD i = true) ∨
    ∃ n, n < 64 ∧ s.getLsbD n = true ∧ g.getLsbD n = false ∧ (∀ i, i < n → s.getLsbD i = true → g.getLsbD i = true) ∧ Raised g (subOf s g) n := by
  rcases least (fun i => s.getLsbD i && !g.getLsbD i) 64 with h | ⟨n, hn, h1, h2⟩
  · left
    have hall : ∀ i, i < 64 → s.getLsbD i = true → g.getLsbD i = true := fun i hi hs => by
      have := h i hi; simp [hs] at this; exact this
    refine ⟨?_, hall⟩
    unfold subOf
    rw [add_one_all]
    · simp
    · intro i hi
      rw [BitVec.getLsbD_or, BitVec.getLsbD_not]
      cases hs : s.getLsbD i
      · simp [hi]
      · simp [hall i hi hs]
  · right
    simp at h1
    have hlt : ∀ i, i < n → s.getLsbD i = true → g.getLsbD i = true := fun i hi hs => by
      have := h2 i hi; simp [hs] at this; exact this
    refine ⟨n, hn, h1.1, h1.2, hlt, fun i hi => ?_⟩
    unfold subOf
    rw [BitVec.getLsbD_and, add_one_bit (g ||| ~~~s) n hn (by simp [h1.1, h1.2]) ?_ i hi]
    · by_cases c1 : i < n
      · simp [c1]
      · by_cases c2 : i = n
        · subst c2; simp [h1.1]
        · simp only [c1, c2, if_false]
          rw [BitVec.getLsbD_or, BitVec.getLsbD_not]
          cases hs : s.getLsbD i
          · cases hgi : g.getLsbD i
            · simp
            · have := hg i hgi; rw [hs] at this; cases this
          · simp
    · intro j hj
      rw [BitVec.getLsbD_or, BitVec.getLsbD_not]
      cases hs : s.getLsbD j
      · simp; omega
      · simp [hlt j hj hs]

theorem raised_congr {t g u : Bv} {n : Nat} (h : Raised g u n) (e : ∀ i, n < i → g.getLsbD i = t.getLsbD i) : Raised t u n := fun i hi => by
  rw [h i hi]
  by_cases c1 : i < n
  · simp [c1]
  · by_cases c2 : i = n
    · simp [c2]
    · simp only [c1, c2, if_false]; exact e i (by omega)

theorem sub_next (s t : Bv) (len : Nat) (hl : IsLen (t &&& ~~~s) len) : NextOf s t (subOf s (gw s t len)) := by
  have hout : ∀ i, (t &&& ~~~s).getLsbD i = (t.getLsbD i && (decide (i < 64) && !s.getLsbD i)) := fun i => by rw [BitVec.getLsbD_and, BitVec.getLsbD_not]
  by_cases h0 : t &&& ~~~s = 0#64
  · -- t is within s
    have hts : ∀ i, t.getLsbD i = true → s.getLsbD i = true := fun i hi => by
      by_cases h64 : i < 64
      · have := hout i; rw [h0, hi] at this; simp [h64] at this; exact this
      · rw [bit_ge t (by omega)] at hi; cases hi
    have hg : gw s t len = t := by unfold gw; rw [if_pos h0]
    rw [hg]
    rcases subOf_next s t hts with ⟨e, h⟩ | ⟨n, hn, h1, h2, h3, h4⟩
    · refine .inl ⟨e, fun n hn hc => ?_⟩
      have := h n hn hc.1; rw [hc.2.1] at this; cases this
    · refine .inr ⟨n, hn, ⟨h1, h2, fun j _ hj => hts j hj⟩, fun i hi hc => ?_, h4⟩
      have := h3 i hi hc.1; rw [hc.2.1] at this; cases this
  · obtain ⟨hl1, hl2, hl3⟩ := hl
    have hpos : 0 < len := by
      rcases Nat.eq_zero_or_pos len with h | h
      · exfalso; apply h0; apply bv_ext; intro i hi; rw [hl2 i (by omega)]; simp
      · exact h
    have htop := hl3 hpos
    rw [hout] at htop; simp at htop
    have hts : ∀ i, len ≤ i → t.getLsbD i = true → s.getLsbD i = true := fun i hi ht => by
      by_cases h64 : i < 64
      · have := hl2 i hi; rw [hout, ht] at this; simp [h64] at this; exact this
      · rw [bit_ge t (by omega)] at ht; cases ht
    have hgb : ∀ i, i < 64 → (gw s t len).getLsbD i = if i < len then s.getLsbD i else t.getLsbD i := fun i hi => by
      unfold gw; rw [if_neg h0, BitVec.getLsbD_or, BitVec.getLsbD_and, BitVec.getLsbD_and, BitVec.getLsbD_not, low_bit len i hi]
      by_cases c : i < len <;> simp [c, hi]
    have hgs : ∀ i, (gw s t len).getLsbD i = true → s.getLsbD i = true := fun i hi => by
      by_cases h64 : i < 64
      · rw [hgb i h64] at hi
        by_cases c : i < len
        · simpa [c] using hi
        · rw [if_neg c] at hi; exact hts i (by omega) hi
      · rw [bit_ge _ (by omega)] at hi; cases hi
    have hcand : ∀ n, Cand s t n → len ≤ n := fun n hc => by
      apply Nat.le_of_not_lt
      intro hlt
      by_cases e : n = len - 1
      · rw [e] at hc; have := hc.1; rw [htop.2.2] at this; cases this
      · have := hc.2.2 (len - 1) (by omega) htop.1; rw [htop.2.2] at this; cases this
    rcases subOf_next s _ hgs with ⟨e, h⟩ | ⟨n, hn, h1, h2, h3, h4⟩
    · refine .inl ⟨e, fun n hn hc => ?_⟩
      have := h n hn hc.1
      rw [hgb n hn, if_neg (by have := hcand n hc; omega), hc.2.1] at this; cases this
    · have hge : len ≤ n := by
        apply Nat.le_of_not_lt
        intro hlt
        rw [hgb n hn, if_pos hlt, h1] at h2; cases h2
      rw [hgb n hn, if_neg (by omega)] at h2
      refine .inr ⟨n, hn, ⟨h1, h2, fun j hj ht => hts j (by omega) ht⟩, fun i hi hc => ?_, raised_congr h4 fun i hi => ?_⟩
      · have := h3 i hi hc.1
        rw [hgb i (by omega), if_neg (by have := hcand i hc; omega), hc.2.1] at this; cases this
      · by_cases h64 : i < 64
        · rw [hgb i h64, if_neg (by omega)]
        · rw [bit_ge _ (by omega), bit_ge t (by omega)]

/-- what is asked of the next subset: behind t, within s, and none between -/
theorem next_order {s t u : Bv} (h : NextOf s t u) :
    (u = 0#64 ∧ ∀ x : Bv, (x &&& s).toNat ≤ t.toNat) ∨
    (u ≠ 0#64 ∧ t.toNat < u.toNat ∧ u &&& ~~~s = 0#64 ∧ ∀ x : Bv, (x &&& s).toNat ≤ t.toNat ∨ u.toNat ≤ (x &&& s).toNat) := by
  have key : ∀ x : Bv, t.toNat < (x &&& s).toNat → ∃ i, i < 64 ∧ Cand s t i ∧ (x &&& s).getLsbD i = true ∧ ∀ j, i < j → t.getLsbD j = (x &&& s).getLsbD j := fun x hx => by
    obtain ⟨i, hi, h1, h2, h3⟩ := bit_of_lt hx
    refine ⟨i, hi, ⟨?_, h1, fun j hj ht => ?_⟩, h2, h3⟩
    · rw [BitVec.getLsbD_and] at h2; simp at h2; exact h2.2
    · rw [h3 j hj, BitVec.getLsbD_and] at ht; simp at ht; exact ht.2
  rcases h with ⟨rfl, hno⟩ | ⟨n, hn, hc, hmin, hr⟩
  · refine .inl ⟨rfl, fun x => Nat.le_of_not_lt fun hx => ?_⟩
    obtain ⟨i, hi, hci, _⟩ := key x hx
    exact hno i hi hci
  · have hun : u.getLsbD n = true := by rw [hr n hn]; simp
    have hup : ∀ j, n < j → t.getLsbD j = u.getLsbD j := fun j hj => by
      by_cases h64 : j < 64
      · rw [hr j h64, if_neg (by omega), if_neg (by omega)]
      · rw [bit_ge _ (by omega), bit_ge _ (by omega)]
    refine .inr ⟨fun e => ?_, lt_of_bit n hc.2.1 hun hup, ?_, fun x => ?_⟩
    · rw [e] at hun; simp at hun
    · apply bv_ext; intro i hi
      rw [BitVec.getLsbD_and, BitVec.getLsbD_not, hr i hi]
      by_cases c1 : i < n
      · simp [c1]
      · by_cases c2 : i = n
        · subst c2; simp [hc.1]
        · simp only [c1, c2, if_false]
          cases ht : t.getLsbD i
          · simp
          · simp [hc.2.2 i (by omega) ht]
    · by_cases hx : t.toNat < (x &&& s).toNat
      · right
        obtain ⟨i, hi, hci, h2, h3⟩ := key x hx
        have hge : n ≤ i := Nat.le_of_not_lt fun hlt => hmin i hlt hci
        by_cases e : i = n
        · subst e
          apply Nat.le_of_not_lt
          intro hlt
          obtain ⟨j, hj, g1, g2, g3⟩ := bit_of_lt hlt
          by_cases c1 : j < i
          · rw [hr j hj, if_pos c1] at g2; cases g2
          · by_cases c2 : j = i
            · rw [c2, h2] at g1; cases g1
            · rw [← hup j (by omega), h3 j (by omega), g1] at g2; cases g2
        · apply Nat.le_of_lt
          refine lt_of_bit i ?_ h2 fun j hj => ?_
          · rw [← hup i (by omega)]; exact hci.2.1
          · rw [← hup j (by omega)]; exact h3 j hj
      · exact .inl (by omega)
end Go.Proofs.YtjmomgmbmgdeoaaDoor
