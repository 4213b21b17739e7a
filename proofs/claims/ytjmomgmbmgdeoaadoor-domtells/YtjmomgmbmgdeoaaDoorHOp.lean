/-
  An argument that is a slice of words: what it holds. No condition.
-/
import Derived.Test.YtjmomgmbmgdeoaaDoorLaid
import Derived.Test.YtjmomgmbmgdeoaaDoorHMe
import Derived.Deep.Slices
namespace Go.Proofs.YtjmomgmbmgdeoaaDoor
set_option maxRecDepth 100000
set_option linter.unusedVariables false
open Go.ChangeShapes Go.WideShapes Go.ChangeAt Go.RowKit Go.Deep

theorem open_words {H : Type} {enc : TypeId × Value → H} {W : World} {v : Value} {d : DataW H} {ps : List MemPlace} {base : Nat}
    (hval : Value.okWide Tryd.prog W .any base 22 v) (h : DataW.Trod enc Tryd.prog W 0 (fun _ => true) true 22 v d ps) : ∃ r, WIn W v r := by
  obtain ⟨a0, len0, cap0, rfl⟩ := okWide_slice Tryd.underlying22 hval
  obtain ⟨fuel, hf⟩ := h
  rcases open_ints Tryd.underlying22 Tryd.underlying35 (by kernel_rfl) hf with ⟨hcs, _⟩ | ⟨a, len, cap, zs, hcs, _, hl, hm, hz, _, hcell, hwz⟩
  · simp [Value.cells] at hcs
    obtain ⟨rfl, rfl, rfl⟩ := hcs
    exact ⟨[], none, 0, rfl, fun k hk => absurd hk (Nat.not_lt_zero _)⟩
  · simp [Value.cells] at hcs
    obtain ⟨rfl, rfl, rfl⟩ := hcs
    have hz' : zs.length = cap0 := by simpa using hz
    obtain ⟨f, hf'⟩ := choose_lt (α := Bv) (n := zs.length) (p := fun i s => zs.getD i 0 = (s.toNat : Int)) (fun i hi => by
      have hx := hwz (zs.getD i 0) (by rw [List.getD, List.getElem?_eq_getElem hi]; exact List.getElem_mem hi)
      exact u64_of hx)
    refine ⟨(List.range len0).map f, some a, cap0, by rw [List.length_map, List.length_range], fun k hk => ?_⟩
    rw [List.length_map, List.length_range] at hk
    obtain ⟨b, off, spot⟩ := a
    have hspot : spot = none := by simpa [Addr.add] using World.cell?_spot (hcell 0 (by omega))
    subst hspot
    refine ⟨b, off, rfl, ?_⟩
    have hc := hcell k (by omega)
    rw [addrW, hf' k (by omega)] at hc
    rw [hc]
    unfold wAt
    rw [List.getD, List.getElem?_map, List.getElem?_range hk]; rfl
end Go.Proofs.YtjmomgmbmgdeoaaDoor
