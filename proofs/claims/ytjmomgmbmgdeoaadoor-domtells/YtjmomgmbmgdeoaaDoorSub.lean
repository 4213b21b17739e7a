/-
  What package bits' Sub, Below and Count answer, in terms of words; and that the law's own look at the package (sets) is passed. No condition.
-/
import Derived.Test.YtjmomgmbmgdeoaaDoorLen
namespace Go.Proofs.YtjmomgmbmgdeoaaDoor
set_option maxRecDepth 100000
open Go.ChangeShapes Go.WideShapes Go.ChangeAt Go.RowKit

theorem ret_int {k : IntKind} {a b : Int} (h : a = b) : Ending.returned (.int k a) = .returned (.int k b) := by rw [h]

theorem isLen_of (x : Bv) (len : Nat) (h : LenN x.toNat len) (h64 : len ≤ 64) : IsLen x len := by
  obtain ⟨h1, h2⟩ := h
  refine ⟨h64, fun i hi => ?_, fun h0 => ?_⟩
  · show x.toNat.testBit i = false
    exact Nat.testBit_lt_two_pow (Nat.lt_of_lt_of_le h1 (Nat.pow_le_pow_right (by omega) hi))
  · show x.toNat.testBit (len - 1) = true
    have hp : 0 < 2 ^ (len - 1) := Nat.two_pow_pos _
    rw [Nat.testBit_eq_decide_div_mod_eq]
    have e : 2 ^ len = 2 ^ (len - 1) * 2 := by rw [← Nat.pow_succ, show (len - 1).succ = len by omega]
    have a := (Nat.le_div_iff_mul_le hp).2 (show 1 * 2 ^ (len - 1) ≤ x.toNat by have := h2 h0; omega)
    have b := (Nat.div_lt_iff_lt_mul hp).2 (show x.toNat < 2 * 2 ^ (len - 1) by omega)
    have : x.toNat / 2 ^ (len - 1) = 1 := by omega
    rw [this]; rfl

def clamp (n : Int) : Nat := (min (max n 0) 64).toNat
theorem clamp_le (n : Int) : clamp n ≤ 64 := by unfold clamp; omega
theorem low_walk (k : Nat) (h : k ≤ 64) : IntKind.u64.wrap (IntKind.u64.wrap (2 ^ k) - 1) = ((low k).toNat : Int) := by
  rw [low_toNat k h, IntKind.wrap_u64, IntKind.wrap_u64]
  have hp : 0 < 2 ^ k := Nat.two_pow_pos k
  have hle : 2 ^ k ≤ 2 ^ 64 := Nat.pow_le_pow_right (by omega) h
  have e : (2 : Int) ^ k = ((2 ^ k : Nat) : Int) := by simp
  rw [e]
  omega

theorem below_any (n : Int) (w : World) :
    Calls Tryd.prog 58 #[.int .i64 n] w fun e w' => e = .returned (.int .u64 (low (clamp n)).toNat) ∧ w = w' := by
  go_enter Tryd.func58, Tryd.ntmps58
  go_wp2
  go_ret
  exact ⟨ret_int (low_walk _ (clamp_le n)), rfl⟩

theorem wrap64_i64 (n : Int) : wrap64 n = IntKind.i64.wrap n := by
  unfold wrap64; simp [IntKind.wrap, IntKind.bits, IntKind.signed]; omega
theorem ones64 (s : Bv) : bits .and .i64 (wrap64 (g6 (g5 (g4 (g3 (g2 (g1 (s.toNat : Int)))))))) 127 = (cnt s : Int) := by
  rw [wrap64_i64]; exact ones_eq s

set_option maxHeartbeats 1000000 in
theorem count_any (s : Bv) (w : World) :
    Calls Tryd.prog 45 #[.int .u64 s.toNat] w fun e w' => e = .returned (.int .i64 (cnt s)) ∧ w = w' := by
  go_enter Tryd.func45, Tryd.ntmps45
  go_wp2
  go_ret
  exact ⟨ret_int (ones64 s), rfl⟩

theorem count (s : Bv) (w : World) :
    Calls Tryd.prog 38 #[.int .u64 s.toNat] w fun e w' => e = .returned (.int .i64 (cnt s)) ∧ w = w' := by
  go_enter Tryd.func38, Tryd.ntmps38
  go_wp2_with (go_at_call 45; refine (count_any _ _).mono ?_; rintro e w' ⟨rfl, rfl⟩)
  go_ret
  exact ⟨rfl, rfl⟩

theorem bv_max (s : Bv) : bits .xor .u64 IntKind.u64.max (s.toNat : Int) = ((~~~s).toNat : Int) := bv_not s
theorem bv_ne_zero (u : Bv) : ((u.toNat : Int) != 0) = (u != 0#64) := by
  by_cases h : u = 0#64
  · rw [h]; rfl
  · have : u.toNat ≠ 0 := fun e => h (BitVec.eq_of_toNat_eq (by simpa using e))
    rw [bne_iff_ne.2 h, bne_iff_ne]; omega

/-- what greatestWithin hands back -/
def GwPost (s t : Bv) (w : World) (e : Ending) (w' : World) : Prop := ∃ len, IsLen (t &&& ~~~s) len ∧ e = .returned (.int .u64 (gw s t len).toNat) ∧ w = w'

theorem isLen_zero : IsLen (0#64) 0 := ⟨by omega, fun i _ => by simp, fun h => absurd h (Nat.lt_irrefl _)⟩
theorem bv_zero_iff (x : Bv) : (((x.toNat : Int) == 0) = true) ↔ x = 0#64 := by
  rw [beq_iff_eq]
  constructor
  · intro h; apply BitVec.eq_of_toNat_eq; simp; omega
  · intro h; rw [h]; rfl
theorem clamp_nat (n : Nat) (h : n ≤ 64) : clamp (n : Int) = n := by unfold clamp; omega

/-- what Sub hands back -/
def SubPost (s t : Bv) (w : World) (e : Ending) (w' : World) : Prop := ∃ u : Bv, NextOf s t u ∧ e = .returned (.tuple #[.int .u64 u.toNat, .bool (u != 0#64)]) ∧ w = w'

end Go.Proofs.YtjmomgmbmgdeoaaDoor
