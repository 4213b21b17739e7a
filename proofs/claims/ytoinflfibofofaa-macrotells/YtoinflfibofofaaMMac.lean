/-
  What the laws' own macros answers. No condition.
-/
import Derived.Test.YtoinflfibofofaaMAll
namespace Go.Proofs.Ytoinflfibofofaa
set_option linter.unusedVariables false
open Go.ChangeShapes Go.WideShapes Go.ChangeAt Go.RowKit

theorem ab_exp : Exp [([97], [98])] [36, 40, 97, 41] [98] := by
  refine ⟨⟨by decide, by decide, by decide, 1, by decide⟩, 1, by decide⟩
theorem ab_cells (w : World) : McIn (w.alloc (.cells #[.string (bs [97]), .string (bs [98])] 25)) (.slice (some ⟨w.heap.size, 0, none⟩) 1 1) [([97], [98])] := by
  refine ⟨some ⟨w.heap.size, 0, none⟩, 1, rfl, Nat.le_refl _, by decide, by decide, .inr ⟨w.heap.size, 0, rfl, by simp, fun k x hk => ?_⟩⟩
  have hs := stay_new w (.string (bs [97])) (.string (bs [98]))
  match k, hk with
  | 0, hk =>
    simp at hk
    subst hk
    exact hs.cells
theorem macros_any (w : World) : Calls Try.prog 20 #[] w fun e w' => e = .returned (.bool true) ∧ Below w.heap.size w w' := by
  have BA : Hid (∀ o, Below w.heap.size w (w.alloc o)) := fun o => (Below.refl _ _).alloc (Nat.le_refl _) o
  have EX := Lib.hid (exp_any [([97], [98])] [36, 40, 97, 41] _ _ (ab_cells w) (by decide) (by decide))
  go_enter Try.func20, Try.ntmps20
  go_wp2_with fail
  refine EX.out.mono ?_
  rintro e w1 ⟨hb, (⟨t, ht, rfl⟩ | ⟨E, hE, rfl⟩)⟩
  · obtain rfl := ht.one ab_exp
    have B1 : Hid (Below w.heap.size w w1) := (BA.out _).trans (hb.mono (BA.out _).size)
    clear hb ht EX
    have e98 : ((bs [98]).toList == [98]) = true := by rw [bs_toList]; decide
    go_wp2
    go_ret
    exact ⟨rfl, B1.out⟩
  · exact absurd ab_exp (hE.bad.1 _)
/-- the two answers of Expand, in one -/
def Ans (z : List Mc) (s a : Str) (E : Int) : Prop := (E = 0 ∧ Exp z s a) ∨ (E ≠ 0 ∧ a = [] ∧ EErr z s E ∧ ∀ t, ¬ Exp z s t)
theorem ans_of {z : List Mc} {s : Str} {w w' : World} {e : Ending} (h : EPost z s w e w') : Below w.heap.size w w' ∧ ∃ a E, e = .returned (.tuple #[.string (bs a), .int .i64 E]) ∧ Ans z s a E := by
  obtain ⟨hb, h⟩ := h
  refine ⟨hb, ?_⟩
  rcases h with ⟨a, h2, rfl⟩ | ⟨E, h2, rfl⟩
  · exact ⟨a, 0, rfl, .inl ⟨rfl, h2⟩⟩
  · exact ⟨[], E, rfl, .inr ⟨h2.bad.2, rfl, h2, h2.bad.1⟩⟩
end Go.Proofs.Ytoinflfibofofaa
