/-
  What package bits' smallest and withoutSmallest answer, in terms of words. Condition: the table of math/bits lies in memory as its text lays it (the card ties this).
-/
import Derived.Test.YtjmomgmbmgdeoaaDoorNums
import Derived.Lib.TrailingZeros
namespace Go.Proofs.YtjmomgmbmgdeoaaDoor
set_option maxRecDepth 100000
open Go.ChangeShapes Go.WideShapes Go.ChangeAt Go.RowKit

/-- the table of math/bits lies in memory -/
def Tab (w : World) : Prop := 0 < w.heap.size ∧ ∀ k, k < 64 → w.cell? ⟨0, k, none⟩ = some (.int .u8 ((Lib.deBruijn64tab.getD k 0 : Nat) : Int))
theorem Tab.drewN {w : World} (h : Tab w) (n : Nat) : Tab (w.drewN n) := h
theorem Tab.below {B : Nat} {w w' : World} (h : Tab w) (hb : Below B w w') (hB : 0 < B) : Tab w' :=
  ⟨Nat.lt_of_lt_of_le h.1 hb.size, fun k hk => by rw [hb.cell (p := ⟨0, k, none⟩) hB]; exact h.2 k hk⟩
theorem Tab.alloc {w : World} (h : Tab w) (o : Obj) : Tab (w.alloc o) :=
  h.below (Below.alloc (Below.refl w.heap.size w) (Nat.le_refl _) o) h.1

theorem odd_bit (k m : Nat) : (2 ^ k * (2 * m + 1)).testBit k = true := by
  rw [Nat.mul_comm, Nat.testBit_mul_two_pow]; simp
theorem odd_low (k m i : Nat) (h : i < k) : (2 ^ k * (2 * m + 1)).testBit i = false := by
  rw [Nat.mul_comm, Nat.testBit_mul_two_pow]; simp; omega
theorem least_of (s : Bv) (h : s ≠ 0#64) : Least s (Lib.ctz 64 s.toNat) := by
  have h0 : s.toNat ≠ 0 := fun e => h (BitVec.eq_of_toNat_eq (by simpa using e))
  obtain ⟨m, hm, hk⟩ := Lib.ctzFrom_spec 64 s.toNat (by omega) s.isLt
  have e : Lib.ctz 64 s.toNat = Lib.ctzFrom 64 s.toNat := by simp [Lib.ctz, h0]
  rw [e]
  have hb : ∀ i, s.getLsbD i = s.toNat.testBit i := fun _ => rfl
  generalize Lib.ctzFrom 64 s.toNat = k at *
  refine ⟨hk, ?_, fun i hi => ?_⟩
  · rw [hb, hm]; exact odd_bit k m
  · rw [hb, hm]; exact odd_low k m i hi
theorem tz_idx (s : Bv) (h : s ≠ 0#64) :
    IntKind.u64.wrap (bits BinOp.and IntKind.u64 (s.toNat : Int) (IntKind.u64.wrap (-(s.toNat : Int))) * 285870213051353865) / 288230376151711744 =
      ((2 ^ Lib.ctz 64 s.toNat * 285870213051353865 % 18446744073709551616 / 288230376151711744 : Nat) : Int) := by
  have h0 : s.toNat ≠ 0 := fun e => h (BitVec.eq_of_toNat_eq (by simpa using e))
  have hl := bv_lt s
  have e1 : IntKind.u64.wrap (-(s.toNat : Int)) = ((18446744073709551616 - s.toNat : Nat) : Int) := by rw [IntKind.wrap_u64]; omega
  have e2 := (Lib.lowest_bit 64 s.toNat h0 s.isLt).1
  have e64 : (2 : Nat) ^ 64 = 18446744073709551616 := by decide
  rw [e64] at e2
  rw [e1, bits_and_u64_nat _ _ hl (by omega), e2, IntKind.wrap_u64]
  generalize 2 ^ Lib.ctz 64 s.toNat = x
  omega

def LeastPost (s : Bv) (w : World) (e : Ending) (w' : World) : Prop := ∃ n : Nat, Least s n ∧ e = .returned (.int .i64 n) ∧ w = w'

/-- the number that the search makes of s, and what the table holds there -/
def Spot (s : Bv) (j k : Nat) : Prop := j < 64 ∧ Lib.deBruijn64tab.getD j 0 = k ∧ Least s k ∧
  IntKind.u64.wrap (bits BinOp.and IntKind.u64 (s.toNat : Int) (IntKind.u64.wrap (-(s.toNat : Int))) * 285870213051353865) / 288230376151711744 = (j : Int)
theorem spot (s : Bv) (h : s ≠ 0#64) : ∃ j k, Spot s j k := by
  have hl := least_of s h
  have hd := Lib.deBruijn64_at _ hl.1
  exact ⟨_, _, hd.1, hd.2, hl, tz_idx s h⟩

set_option maxHeartbeats 400000 in
theorem tz_any (s : Bv) (w : World) (h : s ≠ 0#64) (ht : Tab w) :
    Calls Tryd.prog 68 #[.int .u64 s.toNat] w (LeastPost s w) := by
  have hb : ((s.toNat : Int) == 0) = false := by
    cases hc : ((s.toNat : Int) == 0)
    · rfl
    · exact absurd ((bv_zero_iff _).1 hc) h
  obtain ⟨j, k, hj, hd, hl, hi⟩ := spot s h
  have hc := ht.2 j hj
  rw [hd] at hc
  have hk := hl.1
  have hj' : (j : Int) < 64 := by omega
  have HL := Lib.hid hl
  clear hl h hd ht hj
  go_enter Tryd.func68, Tryd.ntmps68
  go_wp2
  go_ret
  exact ⟨k, HL.out, rfl, rfl⟩

theorem smallest_any (s : Bv) (w : World) (h : s ≠ 0#64) (ht : Tab w) :
    Calls Tryd.prog 65 #[.int .u64 s.toNat] w (LeastPost s w) := by
  have H := Lib.hid h; clear h
  have HT := Lib.hid ht; clear ht
  go_enter Tryd.func65, Tryd.ntmps65
  go_wp2_with fail
  refine (tz_any _ _ H.out HT.out).mono ?_
  rintro e w' ⟨n, hn, rfl, rfl⟩
  have HN := Lib.hid hn; clear hn
  go_wp2
  go_ret
  exact ⟨n, HN.out, rfl, rfl⟩

theorem without_any (s : Bv) (w : World) :
    Calls Tryd.prog 66 #[.int .u64 s.toNat] w fun e w' => e = .returned (.int .u64 (rest s).toNat) ∧ w = w' := by
  go_enter Tryd.func66, Tryd.ntmps66
  go_wp2
  go_ret
  refine ⟨ret_int ?_, rfl⟩
  rw [bv_sub_one, bv_and]; rfl
end Go.Proofs.YtjmomgmbmgdeoaaDoor
