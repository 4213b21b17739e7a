/-
  Plain facts: how many bits of a word of 64 bits are set, by the sums of math/bits.OnesCount64; nothing of the program. No condition.
-/
import Derived.Test.YtjmomgmbmgdeoaaDoorBv
namespace Go.Proofs.YtjmomgmbmgdeoaaDoor
set_option maxRecDepth 100000

/-- how many numbers below n meet p -/
def cntTo (p : Nat → Bool) : Nat → Nat
  | 0 => 0
  | n + 1 => cntTo p n + if p n then 1 else 0
theorem cntTo_le (p : Nat → Bool) : ∀ n, cntTo p n ≤ n
  | 0 => Nat.le_refl _
  | n + 1 => by have := cntTo_le p n; unfold cntTo; split <;> omega
theorem cntTo_congr {p q : Nat → Bool} : ∀ n, (∀ i, i < n → p i = q i) → cntTo p n = cntTo q n
  | 0, _ => rfl
  | n + 1, h => by
    unfold cntTo
    rw [cntTo_congr n fun i hi => h i (by omega), h n (by omega)]
theorem cntTo_add (p : Nat → Bool) (m : Nat) : ∀ n, cntTo p (m + n) = cntTo p m + cntTo (fun i => p (m + i)) n
  | 0 => rfl
  | n + 1 => by
    show cntTo p (m + n) + (if p (m + n) then 1 else 0) = _ + (cntTo _ n + if p (m + n) then 1 else 0)
    rw [cntTo_add p m n]; omega
/-- how many numbers a set has -/
def cnt (s : Bv) : Nat := cntTo s.getLsbD 64
theorem cnt_le (s : Bv) : cnt s ≤ 64 := cntTo_le _ _

/-! the masks, byte by byte -/
def rep (c : Nat) : Nat → Nat
  | 0 => 0
  | k + 1 => 256 * rep c k + c
def f1 (m X : Nat) : Nat := (X / 2 &&& m) + (X &&& m)
def f2 (m X : Nat) : Nat := (X / 4 &&& m) + (X &&& m)
def f3 (m X : Nat) : Nat := (X / 16 + X) &&& m

theorem and_split (x y : Nat) : x &&& y = 256 * ((x / 256) &&& (y / 256)) + ((x % 256) &&& (y % 256)) := by
  have h := Nat.div_add_mod (x &&& y) 256
  have e1 : (x &&& y) / 256 = (x / 256) &&& (y / 256) := Nat.and_div_two_pow (n := 8)
  have e2 : (x &&& y) % 256 = (x % 256) &&& (y % 256) := Nat.and_mod_two_pow (n := 8)
  rw [e1, e2] at h; exact h.symm
theorem and_rep (x c k : Nat) (hc : c < 256) : x &&& rep c (k + 1) = 256 * ((x / 256) &&& rep c k) + (x % 256 &&& c) := by
  rw [and_split, show rep c (k + 1) = 256 * rep c k + c from rfl]
  rw [show (256 * rep c k + c) / 256 = rep c k by omega, show (256 * rep c k + c) % 256 = c by omega]

theorem m1 : ∀ (c : Fin 2) (l : Fin 256), (128 * c.val + l.val / 2) &&& 85 = l.val / 2 &&& 85 := by decide +kernel
theorem m2 : ∀ (c : Fin 4) (l : Fin 256), (64 * c.val + l.val / 4) &&& 51 = l.val / 4 &&& 51 := by decide +kernel
theorem m3 : ∀ (c : Fin 16) (l : Fin 120), (16 * c.val + (l.val / 16 + l.val)) % 256 &&& 15 = (l.val / 16 + l.val) &&& 15 := by decide +kernel
theorem b1 : ∀ l : Fin 256, f1 85 l.val ≤ 170 := by decide +kernel
theorem b2 : ∀ l : Fin 256, f2 51 l.val ≤ 102 := by decide +kernel
theorem b3 : ∀ l : Fin 120, f3 15 l.val ≤ 15 := by decide +kernel
theorem p8 : ∀ l : Fin 256, f3 15 (f2 51 (f1 85 l.val)) = cntTo l.val.testBit 8 := by decide +kernel

theorem f1_rec (k h l : Nat) (hl : l < 256) : f1 (rep 85 (k + 1)) (256 * h + l) = 256 * f1 (rep 85 k) h + f1 85 l := by
  unfold f1
  rw [and_rep _ 85 k (by omega), and_rep _ 85 k (by omega)]
  rw [show (256 * h + l) / 2 / 256 = h / 2 by omega, show (256 * h + l) / 256 = h by omega, show (256 * h + l) % 256 = l by omega,
    show (256 * h + l) / 2 % 256 = 128 * (h % 2) + l / 2 by omega]
  have := m1 ⟨h % 2, by omega⟩ ⟨l, hl⟩
  simp only at this
  rw [this]; omega
theorem f2_rec (k h l : Nat) (hl : l < 256) : f2 (rep 51 (k + 1)) (256 * h + l) = 256 * f2 (rep 51 k) h + f2 51 l := by
  unfold f2
  rw [and_rep _ 51 k (by omega), and_rep _ 51 k (by omega)]
  rw [show (256 * h + l) / 4 / 256 = h / 4 by omega, show (256 * h + l) / 256 = h by omega, show (256 * h + l) % 256 = l by omega,
    show (256 * h + l) / 4 % 256 = 64 * (h % 4) + l / 4 by omega]
  have := m2 ⟨h % 4, by omega⟩ ⟨l, hl⟩
  simp only at this
  rw [this]; omega
theorem f3_rec (k h l : Nat) (hl : l ≤ 102) (hh : h % 16 ≤ 6) : f3 (rep 15 (k + 1)) (256 * h + l) = 256 * f3 (rep 15 k) h + f3 15 l := by
  unfold f3
  rw [and_rep _ 15 k (by omega)]
  rw [show ((256 * h + l) / 16 + (256 * h + l)) / 256 = h / 16 + h by omega,
    show ((256 * h + l) / 16 + (256 * h + l)) % 256 = (16 * (h % 16) + (l / 16 + l)) % 256 by omega]
  have := m3 ⟨h % 16, by omega⟩ ⟨l, by omega⟩
  simp only at this
  rw [this]
theorem and_rep_mod (x k : Nat) : (x &&& rep 51 k) % 16 ≤ 3 := by
  cases k with
  | zero => simp [rep]
  | succ k =>
    rw [and_rep _ 51 k (by omega)]
    have : ∀ l : Fin 256, (l.val &&& 51) % 16 ≤ 3 := by decide +kernel
    have := this ⟨x % 256, by omega⟩
    simp only at this
    omega
theorem f2_mod (k X : Nat) : f2 (rep 51 k) X % 16 ≤ 6 := by
  unfold f2
  have a := and_rep_mod (X / 4) k
  have b := and_rep_mod X k
  omega

/-- the sums within each byte -/
def sums (k X : Nat) : Nat := f3 (rep 15 k) (f2 (rep 51 k) (f1 (rep 85 k) X))
theorem sums_rec (k h l : Nat) (hl : l < 256) : sums (k + 1) (256 * h + l) = 256 * sums k h + cntTo l.testBit 8 := by
  unfold sums
  have e1 := b1 ⟨l, hl⟩
  simp only at e1
  have e2 := b2 ⟨f1 85 l, by omega⟩
  simp only at e2
  rw [f1_rec k h l hl, f2_rec k _ _ (by omega), f3_rec k _ _ (by omega) (f2_mod _ _)]
  have e3 := p8 ⟨l, hl⟩
  simp only at e3
  rw [e3]
theorem sums_zero (X : Nat) : sums 0 X = 0 := by simp [sums, f3, rep]

/-- the bytes' counts, from the lowest on -/
theorem cnt_byte (X n : Nat) : cntTo X.testBit (8 + n) = cntTo (X % 256).testBit 8 + cntTo (X / 256).testBit n := by
  rw [cntTo_add]
  congr 1
  · apply cntTo_congr
    intro i hi
    have : X % 256 = X % 2 ^ 8 := rfl
    rw [this, Nat.testBit_mod_two_pow]; simp [hi]
  · apply cntTo_congr
    intro i hi
    have : X / 256 = X / 2 ^ 8 := rfl
    rw [this, Nat.testBit_div_two_pow, Nat.add_comm]
theorem sums_step (k X : Nat) : sums (k + 1) X = 256 * sums k (X / 256) + cntTo (X % 256).testBit 8 := by
  conv => lhs; rw [show X = 256 * (X / 256) + X % 256 by omega]
  exact sums_rec k _ _ (by omega)

/-- all the bytes' counts, added up as math/bits does it -/
theorem up_a (Y Y1 d0 : Nat) (h0 : d0 ≤ 8) (e0 : Y = 256 * Y1 + d0) : Y / 256 = Y1 := by omega
theorem up_b (Z Z2 c0 c1 : Nat) (h0 : c0 ≤ 16) (h1 : c1 ≤ 16) (e : Z = 65536 * Z2 + 256 * c1 + c0) : Z / 65536 = Z2 := by omega
theorem up_c (V V4 c0 c1 c2 c3 : Nat) (h0 : c0 ≤ 32) (h1 : c1 ≤ 32) (h2 : c2 ≤ 32) (h3 : c3 ≤ 32) (e : V = 4294967296 * V4 + 16777216 * c3 + 65536 * c2 + 256 * c1 + c0) : V / 4294967296 = V4 := by omega
theorem up_d (U c r : Nat) (h : c ≤ 64) (e : U = 256 * r + c) : U % 128 = c := by omega
theorem add_up8 (d0 d1 d2 d3 d4 d5 d6 d7 Y : Nat) (h0 : d0 ≤ 8) (h1 : d1 ≤ 8) (h2 : d2 ≤ 8) (h3 : d3 ≤ 8) (h4 : d4 ≤ 8) (h5 : d5 ≤ 8) (h6 : d6 ≤ 8) (h7 : d7 ≤ 8)
    (hY : Y = 256 * (256 * (256 * (256 * (256 * (256 * (256 * (256 * 0 + d7) + d6) + d5) + d4) + d3) + d2) + d1) + d0) :
    Y < 1152921504606846976 ∧ ∃ Z V U, Z = Y + Y / 256 ∧ Z < 18446744073709551616 ∧ V = Z + Z / 65536 ∧ V < 18446744073709551616 ∧ U = V + V / 4294967296 ∧ U < 18446744073709551616 ∧
      U % 128 = d0 + (d1 + (d2 + (d3 + (d4 + (d5 + (d6 + (d7 + 0))))))) := by
  obtain ⟨Y6, e6⟩ : ∃ y, y = 256 * d7 + d6 := ⟨_, rfl⟩
  obtain ⟨Y5, e5⟩ : ∃ y, y = 256 * Y6 + d5 := ⟨_, rfl⟩
  obtain ⟨Y4, e4⟩ : ∃ y, y = 256 * Y5 + d4 := ⟨_, rfl⟩
  obtain ⟨Y3, e3⟩ : ∃ y, y = 256 * Y4 + d3 := ⟨_, rfl⟩
  obtain ⟨Y2, e2⟩ : ∃ y, y = 256 * Y3 + d2 := ⟨_, rfl⟩
  obtain ⟨Y1, e1⟩ : ∃ y, y = 256 * Y2 + d1 := ⟨_, rfl⟩
  have e0 : Y = 256 * Y1 + d0 := by rw [hY, e1, e2, e3, e4, e5, e6, Nat.mul_zero, Nat.zero_add]
  clear hY
  have b6 : Y6 ≤ 2056 := by omega
  have b5 : Y5 ≤ 526344 := by omega
  have b4 : Y4 ≤ 134744072 := by omega
  have b3 : Y3 ≤ 34494482440 := by omega
  have b2 : Y2 ≤ 8830587504648 := by omega
  have b1 : Y1 ≤ 2260630401189896 := by omega
  have b0 : Y ≤ 578721382704613384 := by omega
  have ya := up_a Y Y1 d0 h0 e0
  have yb := up_b (Y + Y1) (Y2 + Y3) (d0 + d1) (d1 + d2) (by omega) (by omega) (by omega)
  have yc := up_c (Y + Y1 + (Y2 + Y3)) (Y4 + Y5 + Y6 + d7) (d0 + d1 + d2 + d3) (d1 + d2 + d3 + d4) (d2 + d3 + d4 + d5) (d3 + d4 + d5 + d6) (by omega) (by omega) (by omega) (by omega) (by omega)
  have yd := up_d (Y + Y1 + (Y2 + Y3) + (Y4 + Y5 + Y6 + d7)) (d0 + (d1 + (d2 + (d3 + (d4 + (d5 + (d6 + (d7 + 0)))))))) (Y1 + Y2 + Y3 + Y4 + Y5 + Y6 + d7) (by omega) (by omega)
  refine ⟨by omega, Y + Y1, Y + Y1 + (Y2 + Y3), Y + Y1 + (Y2 + Y3) + (Y4 + Y5 + Y6 + d7), by rw [ya], by omega, by rw [yb], by omega, by rw [yc], by omega, yd⟩
theorem add_up (X : Nat) :
    sums 8 X < 1152921504606846976 ∧ ∃ Z V U, Z = sums 8 X + sums 8 X / 256 ∧ Z < 18446744073709551616 ∧ V = Z + Z / 65536 ∧ V < 18446744073709551616 ∧ U = V + V / 4294967296 ∧ U < 18446744073709551616 ∧
      U % 128 = cntTo X.testBit 64 := by
  have e : cntTo X.testBit (8 + (8 + (8 + (8 + (8 + (8 + (8 + (8 + 0)))))))) = cntTo X.testBit 64 := rfl
  rw [← e]
  clear e
  rw [cnt_byte, cnt_byte, cnt_byte, cnt_byte, cnt_byte, cnt_byte, cnt_byte, cnt_byte]
  refine add_up8 _ _ _ _ _ _ _ _ _ (cntTo_le _ 8) (cntTo_le _ 8) (cntTo_le _ 8) (cntTo_le _ 8) (cntTo_le _ 8) (cntTo_le _ 8) (cntTo_le _ 8) (cntTo_le _ 8) ?_
  rw [sums_step, sums_step, sums_step, sums_step, sums_step, sums_step, sums_step, sums_step, sums_zero]

/-! the model's spelling of it -/
def g1 (x : Int) : Int := IntKind.u64.wrap (bits .and .u64 (x / 2) 6148914691236517205 + bits .and .u64 x 6148914691236517205)
def g2 (x : Int) : Int := IntKind.u64.wrap (bits .and .u64 (x / 4) 3689348814741910323 + bits .and .u64 x 3689348814741910323)
def g3 (x : Int) : Int := bits .and .u64 (IntKind.u64.wrap (x / 16 + x)) 1085102592571150095
def g4 (x : Int) : Int := IntKind.u64.wrap (x + x / 256)
def g5 (x : Int) : Int := IntKind.u64.wrap (x + x / 65536)
def g6 (x : Int) : Int := IntKind.u64.wrap (x + x / 4294967296)
theorem and_le (x m : Nat) : x &&& m ≤ m := Nat.and_le_right
theorem g1_eq (X : Nat) (h : X < 18446744073709551616) : g1 (X : Int) = (f1 (rep 85 8) X : Nat) := by
  have e : rep 85 8 = 6148914691236517205 := by decide
  unfold g1 f1
  rw [e, show ((X : Int) / 2) = ((X / 2 : Nat) : Int) by omega, show (6148914691236517205 : Int) = ((6148914691236517205 : Nat) : Int) from rfl,
    bits_and_u64_nat _ _ (by omega) (by omega), bits_and_u64_nat _ _ (by omega) (by omega), IntKind.wrap_u64]
  have a := and_le (X / 2) 6148914691236517205
  have b := and_le X 6148914691236517205
  omega
theorem g2_eq (X : Nat) (h : X < 18446744073709551616) : g2 (X : Int) = (f2 (rep 51 8) X : Nat) := by
  have e : rep 51 8 = 3689348814741910323 := by decide
  unfold g2 f2
  rw [e, show ((X : Int) / 4) = ((X / 4 : Nat) : Int) by omega, show (3689348814741910323 : Int) = ((3689348814741910323 : Nat) : Int) from rfl,
    bits_and_u64_nat _ _ (by omega) (by omega), bits_and_u64_nat _ _ (by omega) (by omega), IntKind.wrap_u64]
  have a := and_le (X / 4) 3689348814741910323
  have b := and_le X 3689348814741910323
  omega
theorem g3_eq (X : Nat) (h : X ≤ 7378697629483820646) : g3 (X : Int) = (f3 (rep 15 8) X : Nat) := by
  have e : rep 15 8 = 1085102592571150095 := by decide
  unfold g3 f3
  rw [e, IntKind.wrap_u64, show ((X : Int) / 16 + X) % 18446744073709551616 = ((X / 16 + X : Nat) : Int) by omega, show (1085102592571150095 : Int) = ((1085102592571150095 : Nat) : Int) from rfl,
    bits_and_u64_nat _ _ (by omega) (by omega)]
theorem f1_lt (X : Nat) : f1 (rep 85 8) X < 18446744073709551616 := by
  have e : rep 85 8 = 6148914691236517205 := by decide
  unfold f1; rw [e]
  have a := and_le (X / 2) 6148914691236517205
  have b := and_le X 6148914691236517205
  omega
theorem f2_le (X : Nat) : f2 (rep 51 8) X ≤ 7378697629483820646 := by
  have e : rep 51 8 = 3689348814741910323 := by decide
  unfold f2; rw [e]
  have a := and_le (X / 4) 3689348814741910323
  have b := and_le X 3689348814741910323
  omega
theorem and127 (u : Nat) (h : u < 18446744073709551616) : bits .and .i64 (IntKind.i64.wrap (u : Int)) 127 = ((u % 128 : Nat) : Int) := by
  show IntKind.i64.wrap ((BitVec.ofInt 64 (IntKind.i64.wrap (u : Int)) &&& BitVec.ofInt 64 127).toNat : Int) = _
  have h1 : BitVec.ofInt 64 (IntKind.i64.wrap (u : Int)) = BitVec.ofNat 64 u := by
    apply BitVec.eq_of_toNat_eq
    rw [BitVec.toNat_ofInt, BitVec.toNat_ofNat]
    simp [IntKind.wrap, IntKind.bits, IntKind.signed]
    omega
  have h2 : (BitVec.ofInt 64 127).toNat = 2 ^ 7 - 1 := by decide
  rw [h1, BitVec.toNat_and, h2, BitVec.toNat_ofNat, Nat.mod_eq_of_lt (by omega), Nat.and_two_pow_sub_one_eq_mod]
  simp [IntKind.wrap, IntKind.bits, IntKind.signed]
  omega
/-- what math/bits.OnesCount64 reckons is how many numbers the set has -/
theorem ones_eq (s : Bv) : bits .and .i64 (IntKind.i64.wrap (g6 (g5 (g4 (g3 (g2 (g1 (s.toNat : Int)))))))) 127 = (cnt s : Int) := by
  rw [g1_eq _ (bv_lt s), g2_eq _ (f1_lt _), g3_eq _ (f2_le _)]
  obtain ⟨hY, Z, V, U, hZ, hZl, hV, hVl, hU, hUl, h⟩ := add_up s.toNat
  have e : f3 (rep 15 8) (f2 (rep 51 8) (f1 (rep 85 8) s.toNat)) = sums 8 s.toNat := rfl
  rw [e]
  generalize sums 8 s.toNat = Y at *
  have e4 : g4 (Y : Int) = (Z : Int) := by unfold g4; rw [IntKind.wrap_u64]; omega
  have e5 : g5 (Z : Int) = (V : Int) := by unfold g5; rw [IntKind.wrap_u64]; omega
  have e6 : g6 (V : Int) = (U : Int) := by unfold g6; rw [IntKind.wrap_u64]; omega
  rw [e4, e5, e6, and127 U hUl, h]
  rfl
end Go.Proofs.YtjmomgmbmgdeoaaDoor
