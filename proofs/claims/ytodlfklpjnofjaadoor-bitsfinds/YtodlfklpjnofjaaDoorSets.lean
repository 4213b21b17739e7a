/-
  The law's own look at package bits (sets) is passed. No condition.
-/
import Derived.Test.YtodlfklpjnofjaaDoorSub
namespace Go.Proofs.YtodlfklpjnofjaaDoor
open Go.ChangeShapes Go.WideShapes Go.ChangeAt Go.RowKit

theorem grown_trans {a b c : World} (h : Grown a b) (k : Grown b c) : Grown a c :=
  ⟨World.keptBut_trans h.1 k.1, fun x => (k.2.1 x).trans (h.2.1 x), Nat.le_trans h.2.2 k.2.2⟩

set_option maxHeartbeats 1000000 in
theorem sets_true (w : World) :
    Calls Tryd.prog 22 #[] w fun e w' => e = .returned (.bool true) ∧ Grown w w' := by
  have b0 : bits .or .u64 0 2 = 2 := by decide +kernel
  have b1 : bits .or .u64 2 8 = 10 := by decide +kernel
  have w1 : IntKind.u64.wrap 2 = 2 := by decide +kernel
  have w2 : IntKind.u64.wrap 8 = 8 := by decide +kernel
  go_enter Tryd.func22, Tryd.ntmps22
  go_wp2
  go_rounds 3
  go_ret
  exact ⟨rfl, by go_grown⟩

/-- a number of the kind uint64 is a word's -/
theorem word_of {a : Int} (h : (Lit.int .u64 a).wf = true) : ∃ s : Bv, a = (s.toNat : Int) := by
  have hb := bounds_u64 h
  refine ⟨BitVec.ofNat 64 a.toNat, ?_⟩
  rw [BitVec.toNat_ofNat, Nat.mod_eq_of_lt (by omega)]
  omega
end Go.Proofs.YtodlfklpjnofjaaDoor
