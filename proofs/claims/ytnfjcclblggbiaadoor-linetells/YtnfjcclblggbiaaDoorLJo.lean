/-
  What package line's mayOccur, physicalLines, quoted, uncommented answer. Condition: the strings are shorter than 2^32 bytes.
-/
import Derived.Test.YtnfjcclblggbiaaDoorLFn
import Derived.WalkMore
namespace Go.Proofs.YtnfjcclblggbiaaDoor
open Go.ChangeShapes Go.WideShapes Go.ChangeAt Go.RowKit

theorem may_any (c : UInt8) (w : World) :
    Calls Tryd.prog 24 #[.int .u8 (c.toNat : Int)] w fun e w' => e = .returned (.bool (may c)) ∧ w' = w := by
  unfold may
  generalize c.toNat = n
  by_cases h1 : 32 ≤ n <;> by_cases h2 : n ≤ 126 <;> by_cases h3 : n = 9 <;> by_cases h4 : n = 10 <;>
  · go_enter Tryd.func24, Tryd.ntmps24
    go_wp2
    all_goals go_ret
    all_goals exact ⟨ret_b (by simp [h1, h2, h3, h4] <;> omega), rfl⟩

theorem quoted_any (x : Str) (w : World) (hx : x.length < 4294967281) (hm : MX w) :
    Calls Tryd.prog 37 #[.string (bs x)] w fun e w' => e = .returned (.string (bs (esc x))) ∧ Below w.heap.size w w' := by
  have HC := Lib.hid (esc_call x w hx hm)
  go_enter Tryd.func37, Tryd.ntmps37
  go_wp2_with fail
  refine HC.out.mono ?_
  rintro e w' ⟨rfl, h⟩
  have H := Lib.hid h; clear h
  go_wp2
  go_ret
  exact ⟨rfl, H.out⟩

theorem phys_any (x : Str) (w : World) (hx : x.length ≤ 20000) (hm : MX w) :
    Calls Tryd.prog 25 #[.string (bs x)] w fun e w' => ∃ v, e = .returned v ∧ SIn w' v (phys x) ∧ Below w.heap.size w w' := by
  by_cases h0 : x = []
  · subst h0
    have hz : bs [] = ByteArray.mk #[] := rfl
    rw [hz]
    go_enter Tryd.func25, Tryd.ntmps25
    go_wp2
    go_ret
    exact ⟨_, rfl, ⟨none, 0, rfl, Nat.le_refl _, by simp [phys], fun x hx => by simp [phys] at hx, .inl rfl⟩, Below.refl _ _⟩
  · have hz : (bs x).toList.isEmpty = false := bs_some h0
    have ht : (Lib.trimSuffix x [10]).length ≤ x.length := by unfold Lib.trimSuffix; split <;> simp
    have HC := Lib.hid (sufNL x w (by omega))
    have HS := Lib.hid (split_any (Lib.trimSuffix x [10]) w (by omega) hm)
    rw [← phys_cut x h0] at HS
    clear hx ht hm
    go_enter Tryd.func25, Tryd.ntmps25
    go_wp2_with fail
    refine HC.out.mono ?_
    rintro e w' ⟨rfl, rfl⟩
    go_wp2_with fail
    refine HS.out.mono ?_
    rintro e w' ⟨v, rfl, h1, h2⟩
    have H1 := Lib.hid h1; have H2 := Lib.hid h2; clear h1 h2
    go_wp2
    go_ret
    exact ⟨_, rfl, H1.out, H2.out⟩
end Go.Proofs.YtnfjcclblggbiaaDoor
