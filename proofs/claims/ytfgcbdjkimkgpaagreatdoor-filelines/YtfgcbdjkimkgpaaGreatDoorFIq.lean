/-
  A copy of a list with one string behind it: what the two appends leave, in both orders. Condition: at most 100 strings.
-/
import Derived.Test.YtfgcbdjkimkgpaaGreatDoorLReN
import Derived.Test.YtfgcbdjkimkgpaaGreatDoorFIp
namespace Go.Proofs.YtfgcbdjkimkgpaaGreatDoor
set_option maxRecDepth 100000
set_option linter.unusedVariables false
open Go.ChangeShapes Go.WideShapes Go.ChangeAt Go.RowKit

theorem so_lit (W : World) (y : Str) : SO W.heap.size (.slice (some ⟨W.heap.size, 0, none⟩) 1 1) [y] (W.alloc (.cells #[.string (bs y)] 9)) := World.ownsRow_lit W #[.string (bs y)] 1 (Nat.le_refl _) (by decide) rfl
/-- a copy of a list with one string behind it, the two orders in which it is made -/
theorem push_a {W : World} {B : Nat} {ov : Value} {p : List Str} (y : Str) (ho : SO B ov p W) (hl : p.length ≤ 100) :
    ∃ a1 c1 W1 a2 c2 W2, (Builtin.append_ #[27, 27] 27 #[.slice none 0 0, ov]).run Tryz.prog W.drew = .ok (.slice a1 p.length c1) W1 ∧
      (Builtin.append_ #[27, 27] 27 #[.slice a1 p.length c1, .slice (some ⟨W1.heap.size, 0, none⟩) 1 1]).run Tryz.prog (W1.alloc (.cells #[.string (bs y)] 9)) = .ok (.slice a2 (p.length + 1) c2) W2 ∧
      SO W.heap.size (.slice a2 (p.length + 1) c2) (p ++ [y]) W2 ∧ Below W.heap.size W W1 ∧ Below W.heap.size W W2 := by
  have b0 : Below W.heap.size W W.drew := (Below.refl _ _).drew
  obtain ⟨a1, c1, W1, r1, o1, g1⟩ := app_list (w := W.drew) (base := W.heap.size) (u := .slice none 0 0) (y := []) (World.ownsRow_nil _ _ _ _) (own_later ho b0) (by simp; omega) (Nat.le_refl _)
  rw [List.nil_append] at r1 o1
  have b1 : Below W.heap.size W W1 := b0.grown g1 (Nat.le_refl _) (fun k e => by cases e)
  have b2 : Below W.heap.size W (W1.alloc (.cells #[.string (bs y)] 9)) := b1.alloc b1.size _
  obtain ⟨a2, c2, W2, r2, o2, g2⟩ := app_list (w := W1.alloc (.cells #[.string (bs y)] 9)) (base := W.heap.size) (World.ownsRow.alloc o1 _) (so_lit W1 y) (by simp; omega) b2.size
  rw [List.length_append, List.length_singleton] at r2 o2
  exact ⟨a1, c1, W1, a2, c2, W2, r1, r2, o2, b1, b2.grown g2 b2.size (fun k e => (o1.lt k e).1)⟩
theorem push_b {W : World} {B : Nat} {ov : Value} {p : List Str} (y : Str) (ho : SO B ov p W) (hl : p.length ≤ 100) :
    ∃ a1 c1 W1 a2 c2 W2, (Builtin.append_ #[27, 27] 27 #[.slice none 0 0, ov]).run Tryz.prog (W.drew.alloc (.cells #[.string (bs y)] 9)) = .ok (.slice a1 p.length c1) W1 ∧
      (Builtin.append_ #[27, 27] 27 #[.slice a1 p.length c1, .slice (some ⟨W.heap.size, 0, none⟩) 1 1]).run Tryz.prog W1 = .ok (.slice a2 (p.length + 1) c2) W2 ∧
      SO W.heap.size (.slice a2 (p.length + 1) c2) (p ++ [y]) W2 ∧ Below W.heap.size W W1 ∧ Below W.heap.size W W2 := by
  have b0 : Below W.heap.size W W.drew := (Below.refl _ _).drew
  have b1 : Below W.heap.size W (W.drew.alloc (.cells #[.string (bs y)] 9)) := b0.alloc b0.size _
  obtain ⟨a1, c1, W1, r1, o1, g1⟩ := app_list (w := W.drew.alloc (.cells #[.string (bs y)] 9)) (base := W.heap.size) (u := .slice none 0 0) (y := []) (World.ownsRow_nil _ _ _ _) (own_later ho b1) (by simp; omega) b1.size
  rw [List.nil_append] at r1 o1
  have b2 : Below W.heap.size W W1 := b1.grown g1 b1.size (fun k e => by cases e)
  have hl2 : SO W.heap.size (.slice (some ⟨W.heap.size, 0, none⟩) 1 1) [y] W1 := World.ownsRow.kept (so_lit W.drew y) g1 (.inr (by simp [Value.ownBlock]))
  obtain ⟨a2, c2, W2, r2, o2, g2⟩ := app_list (w := W1) (base := W.heap.size) o1 hl2 (by simp; omega) b2.size
  rw [List.length_append, List.length_singleton] at r2 o2
  exact ⟨a1, c1, W1, a2, c2, W2, r1, r2, o2, b2, b2.grown g2 b2.size (fun k e => (o1.lt k e).1)⟩
end Go.Proofs.YtfgcbdjkimkgpaaGreatDoor
