/-
  Package macro's usesByName. Condition: at most 40 macros, their strings of at most 2^32 bytes.
-/
import Derived.Test.YtihiohohocfchaaMCut
namespace Go.Proofs.Ytihiohohocfchaa
set_option maxRecDepth 100000
set_option linter.unusedVariables false
open Go.ChangeShapes Go.WideShapes Go.ChangeAt Go.RowKit

def nm (z : List Mc) (k : Nat) : Str := (z.getD k ([], [])).1
def vl (z : List Mc) (k : Nat) : Str := (z.getD k ([], [])).2
theorem at_some {z : List Mc} {k : Nat} (h : k < z.length) : z[k]? = some (nm z k, vl z k) := by
  unfold nm vl; rw [List.getD, List.getElem?_eq_getElem h]; rfl
theorem mem_at {z : List Mc} {k : Nat} (h : k < z.length) : (nm z k, vl z k) ∈ z := List.mem_of_getElem? (at_some h)
theorem drop_at {z : List Mc} {k : Nat} (h : k < z.length) : z.drop k = (nm z k, vl z k) :: z.drop (k + 1) := by
  rw [List.drop_eq_getElem_cons h]
  have := at_some h
  rw [List.getElem?_eq_getElem h] at this
  rw [Option.some.inj this]
theorem take_at {z : List Mc} {k : Nat} (h : k < z.length) : z.take (k + 1) = z.take k ++ [(nm z k, vl z k)] := by
  rw [List.take_add_one, at_some h]; rfl

/-- the first fault of names and values -/
def formR : List Str → List Mc → Int
  | _, [] => 0
  | seen, m :: r => if good m.1 = false then 3 else if tk none m.2 = none then 3 else if seen.contains m.1 then 6 else formR (seen ++ [m.1]) r

/-- strings stay where a map is written -/
theorem SIn.mapped {w w' : World} {v : Value} {z : List Str} {b n : Nat} {f : Str → Option Value} (h : SIn w v z) (hm : MI b n f w) (g : w.grownBy w' (some b)) : SIn w' v z := by
  obtain ⟨a, cap, h1, h2, h3, h4, h5⟩ := h
  refine ⟨a, cap, h1, h2, h3, h4, ?_⟩
  by_cases h0 : z = []
  · exact .inl h0
  · rcases h5 with h5 | ⟨c, off, e1, e2, e3⟩
    · exact .inl h5
    · have hp := List.length_pos_iff.2 h0
      have hne : c ≠ b := by
        rintro rfl
        obtain ⟨D, ⟨es, clock, hb, _⟩, _⟩ := hm
        have := e3 0 hp
        simp [World.cell?, hb] at this
      refine .inr ⟨c, off, e1, Nat.lt_of_lt_of_le e2 g.size, fun k hk => ?_⟩
      exact g.cell (e3 k hk) (by simpa using hne)

/-- block b is a map that holds the names that each macro of l refers to -/
def UM (l : List Mc) (b n : Nat) (w : World) : Prop :=
  ∃ f, MI b n f w ∧ (∀ x, (f x).isSome = (l.map (·.1)).contains x) ∧ ∀ m ∈ l, ∃ v, f m.1 = some v ∧ SIn w v (usesR m.2) ∧ ∀ x ∈ usesR m.2, good x = true
theorem UM.later {l : List Mc} {b n : Nat} {w w' : World} (h : UM l b n w) (hb : Below w.heap.size w w') : UM l b n w' := by
  obtain ⟨f, h1, h2, h3⟩ := h
  refine ⟨f, h1.later hb, h2, fun m hm => ?_⟩
  obtain ⟨v, e1, e2, e3⟩ := h3 m hm
  exact ⟨v, e1, e2.later hb, e3⟩
/-- what usesByName hands back -/
def BPost (z : List Mc) (w : World) (e : Ending) (w' : World) : Prop :=
  Below w.heap.size w w' ∧ ((formR [] z = 0 ∧ e = .returned (.tuple #[.map (some w.heap.size), .int .i64 0]) ∧ UM z w.heap.size z.length w') ∨ (formR [] z ≠ 0 ∧ e = .returned (.tuple #[.map none, .int .i64 (formR [] z)])))
end Go.Proofs.Ytihiohohocfchaa
