/-
  What package bits' Rank, Next and Nth answer, in terms of words. Condition: the table of math/bits lies in memory as its text lays it (the card ties this).
-/
import Derived.Test.YtbippnldofalbaaDoorTz
namespace Go.Proofs.YtbippnldofalbaaDoor
set_option maxRecDepth 100000
open Go.ChangeShapes Go.WideShapes Go.ChangeAt Go.RowKit

/-- what Next hands back: there is none from n on, or the first one -/
def NextPost (s : Bv) (c : Nat) (w : World) (e : Ending) (w' : World) : Prop := w = w' ∧
  ((e = .returned (.tuple #[.int .i64 0, .bool false]) ∧ ∀ i, c ≤ i → i < 64 → s.getLsbD i = false) ∨
   ∃ m : Nat, e = .returned (.tuple #[.int .i64 m, .bool true]) ∧ m < 64 ∧ c ≤ m ∧ s.getLsbD m = true ∧ ∀ i, c ≤ i → i < m → s.getLsbD i = false)

theorem from_bit (s : Bv) (c i : Nat) (hi : i < 64) : (s &&& ~~~low c).getLsbD i = (s.getLsbD i && decide (c ≤ i)) := by
  rw [BitVec.getLsbD_and, BitVec.getLsbD_not, low_bit c i hi]
  by_cases h : i < c
  · have : ¬ c ≤ i := by omega
    simp [h, this]
  · have : c ≤ i := by omega
    simp [h, hi, this]

theorem next_any (s : Bv) (n : Int) (w : World) (ht : Tab w) :
    Calls Tryd.prog 21 #[.int .u64 s.toNat, .int .i64 n] w (NextPost s (clamp n) w) := by
  have HT := Lib.hid ht; clear ht
  by_cases h : s &&& ~~~low (clamp n) = 0#64
  · have hb : (bits .andNot .u64 (s.toNat : Int) ((low (clamp n)).toNat : Int) == 0) = true := by rw [bv_andNot]; exact (bv_zero_iff _).2 h
    have H := Lib.hid h; clear h
    go_enter Tryd.func21, Tryd.ntmps21
    go_wp2_with fail
    refine (below_any _ _).mono ?_
    rintro e w' ⟨rfl, rfl⟩
    go_wp2
    go_ret2
    refine ⟨rfl, .inl ⟨rfl, fun i h1 h2 => ?_⟩⟩
    have := from_bit s (clamp n) i h2
    rw [H.out] at this
    simpa [h1] using this
  · have hb : (bits .andNot .u64 (s.toNat : Int) ((low (clamp n)).toNat : Int) == 0) = false := by
      rw [bv_andNot]
      cases hc : (((s &&& ~~~low (clamp n)).toNat : Int) == 0)
      · rfl
      · exact absurd ((bv_zero_iff _).1 hc) h
    have H := Lib.hid h; clear h
    go_enter Tryd.func21, Tryd.ntmps21
    go_wp2_with fail
    refine (below_any _ _).mono ?_
    rintro e w' ⟨rfl, rfl⟩
    go_wp2_with fail
    clear hb
    rw [bv_andNot]
    refine (smallest_any _ _ H.out HT.out).mono ?_
    rintro e w' ⟨m, hm, rfl, rfl⟩
    have HM := Lib.hid hm; clear hm
    go_wp2
    go_ret2
    refine ⟨rfl, .inr ⟨m, rfl, HM.out.1, ?_⟩⟩
    have h1 := HM.out.2.1
    rw [from_bit s _ m HM.out.1] at h1
    simp at h1
    refine ⟨h1.2, h1.1, fun i h2 h3 => ?_⟩
    have h4 := HM.out.2.2 i h3
    have h5 := HM.out.1
    rw [from_bit s _ i (by omega)] at h4
    simpa [h2] using h4

/-- what Nth hands back where there is such an element -/
def NthPost (s : Bv) (k : Nat) (w : World) (e : Ending) (w' : World) : Prop := ∃ n : Nat, e = .returned (.tuple #[.int .i64 n, .bool true]) ∧ n < 64 ∧ s.getLsbD n = true ∧ cntTo s.getLsbD n = k ∧ w = w'

end Go.Proofs.YtbippnldofalbaaDoor
