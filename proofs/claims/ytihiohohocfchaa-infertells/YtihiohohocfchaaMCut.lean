/-
  strings.Cut and strings.CutPrefix at a separator of one byte; package macro's cutReference. Condition: strings of at most 2^63 - 1 bytes.
-/
import Derived.Test.YtihiohohocfchaaMIn
import Derived.Test.YtihiohohocfchaaShelf
namespace Go.Proofs.Ytihiohohocfchaa
set_option maxRecDepth 100000
set_option linter.unusedVariables false
open Go.ChangeShapes Go.WideShapes Go.ChangeAt Go.RowKit Go.Shelf

theorem bs_take (S : ByteArray) (k : Nat) : S.extract 0 k = bs (S.data.toList.take k) := by
  rw [← bs_of (S.extract 0 k)]
  congr 1
  have := Lib.extract_toList S 0 k
  rw [Lib.toList_data] at this
  rw [List.drop_zero, Nat.sub_zero] at this
  exact this
theorem bs_drop (S : ByteArray) (k : Nat) : S.extract k S.size = bs (S.data.toList.drop k) := by
  rw [← bs_of (S.extract k S.size)]
  congr 1
  have := Lib.extract_toList S k S.size
  rw [Lib.toList_data] at this
  rw [this, List.take_of_length_le]
  rw [List.length_drop, size_list]
  exact Nat.le_refl _
theorem midx_none : ∀ (x : Str) (c : UInt8), c ∉ x → Lib.indexByte x c = -1
  | [], c, _ => rfl
  | b :: l, c, h => by
    have h1 : b ≠ c := fun e => h (by rw [e]; exact List.mem_cons_self)
    rw [Lib.indexByte, midx_none l c (fun e => h (List.mem_cons_of_mem _ e))]
    simp [h1]
theorem midx_some (c : UInt8) (b : Str) : ∀ (a : Str), c ∉ a → Lib.indexByte (a ++ c :: b) c = a.length
  | [], _ => by simp [Lib.indexByte]
  | d :: a, h => by
    have h1 : d ≠ c := fun e => h (by rw [e]; exact List.mem_cons_self)
    rw [List.cons_append, Lib.indexByte, midx_some c b a (fun e => h (List.mem_cons_of_mem _ e))]
    simp [h1]
theorem msplit_at (c : UInt8) : ∀ x : Str, c ∉ x ∨ ∃ a b, x = a ++ c :: b ∧ c ∉ a
  | [] => .inl List.not_mem_nil
  | d :: r => by
    by_cases h : d = c
    · exact .inr ⟨[], r, by rw [h]; rfl, List.not_mem_nil⟩
    · rcases msplit_at c r with h' | ⟨a, b, rfl, h'⟩
      · refine .inl fun e => ?_
        rcases List.mem_cons.1 e with e | e
        · exact h e.symm
        · exact h' e
      · refine .inr ⟨d :: a, b, rfl, fun e => ?_⟩
        rcases List.mem_cons.1 e with e | e
        · exact h e.symm
        · exact h' e

/-- what Cut hands back -/
def CutPost (x : Str) (c : UInt8) (w : World) (e : Ending) (w' : World) : Prop :=
  Below w.heap.size w w' ∧ ((c ∉ x ∧ e = .returned (.tuple #[.string (bs x), .string (bs []), .bool false])) ∨ ∃ a b, x = a ++ c :: b ∧ c ∉ a ∧ e = .returned (.tuple #[.string (bs a), .string (bs b), .bool true]))
/-- CutPrefix at one byte -/
theorem pre_any (x : Str) (c : UInt8) (w : World) : Calls Try.prog 55 #[.string (bs x), .string ⟨#[c]⟩] w fun e w' => w' = w ∧ (([c].isPrefixOf x = false ∧ e = .returned (.tuple #[.string (bs x), .bool false])) ∨ ∃ r, x = c :: r ∧ e = .returned (.tuple #[.string (bs r), .bool true])) := by
  refine (Try.strings_CutPrefix (bs x) ⟨#[c]⟩ w).mono ?_
  rintro e w' ⟨rfl, rfl⟩
  refine ⟨rfl, ?_⟩
  rw [bs_list]
  show _ ∨ _
  cases x with
  | nil => exact .inl ⟨rfl, rfl⟩
  | cons d r =>
    by_cases h : c = d
    · subst h
      refine .inr ⟨r, rfl, ?_⟩
      simp [Lib.trimPrefix, Lib.hasPrefix, List.isPrefixOf, bs]
    · refine .inl ⟨?_, ?_⟩
      · simp [List.isPrefixOf, h]
      · simp [Lib.trimPrefix, Lib.hasPrefix, List.isPrefixOf, bs, h]

/-- what cutReference hands back -/
def RefPost (x : Str) (w : World) (e : Ending) (w' : World) : Prop :=
  Below w.heap.size w w' ∧ ((∃ n r, x = 40 :: (n ++ 41 :: r) ∧ 41 ∉ n ∧ good n = true ∧ e = .returned (.tuple #[.string (bs n), .string (bs r), .bool true])) ∨
    (([36].isPrefixOf x = false → tk (some none) x = none) ∧ ∃ a b, e = .returned (.tuple #[a, b, .bool false])))
end Go.Proofs.Ytihiohohocfchaa
