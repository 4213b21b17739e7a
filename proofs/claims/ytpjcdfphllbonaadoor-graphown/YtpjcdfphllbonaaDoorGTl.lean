/-
  Rows of edges of the call's own whose block holds numbers alone, also behind the slice's end; append keeps this. No condition.
-/
import Derived.Test.YtpjcdfphllbonaaDoorGCt
import Derived.Test.YtpjcdfphllbonaaDoorRTl
import Derived.Deep.RegionLaw
namespace Go.Proofs.YtpjcdfphllbonaaDoor
set_option maxRecDepth 100000
set_option linter.unusedVariables false
open Go.ChangeShapes Go.WideShapes Go.ChangeAt Go.RowKit

/-- a number -/
def In64 (u : Value) : Prop := ∃ n : Int, u = .int .i64 n
/-- every cell of the slice's block is a number -/
def TlE (v : Value) (w : World) : Prop := ∀ g, v.ownBlock = some g → ∃ cur : Array Value, w.heap[g]? = some (.cells cur 49 (0, 0)) ∧ ∀ u ∈ cur.toList, In64 u
theorem TlE.nil (w : World) (n c : Nat) : TlE (.slice none n c) w := fun g h => by cases h
theorem TlE.later {v : Value} {w w' : World} (h : TlE v w) (hb : Below w.heap.size w w') : TlE v w' := fun g hg => by
  obtain ⟨cur, h1, h2⟩ := h g hg
  exact ⟨cur, (hb.block g (heap_lt h1)).trans h1, h2⟩
theorem TlE.alloc {v : Value} {w : World} (h : TlE v w) (o : Obj) : TlE v (w.alloc o) := h.later ((Below.refl _ w).alloc (Nat.le_refl _) o)
theorem TlE.kept {v : Value} {w w' : World} {row : Option Nat} (h : TlE v w) (hg : w.grownBy w' row) (hne : v.ownBlock = none ∨ v.ownBlock ≠ row) : TlE v w' := fun g hv => by
  obtain ⟨cur, h1, h2⟩ := h g hv
  refine ⟨cur, (hg.block g (heap_lt h1) ?_).trans h1, h2⟩
  rcases hne with h' | h'
  · rw [h'] at hv; cases hv
  · rw [← hv]; exact h'
theorem zero_in (n : Nat) : ∀ u ∈ (Builtin.zeroCells (Value.cells (.agg #[.int .i64 0, .int .i64 0])) n).toList, In64 u := by
  intro u hu
  simp only [Builtin.zeroCells, Value.cells, Array.toList_map, List.mem_map] at hu
  obtain ⟨i, _, rfl⟩ := hu
  refine ⟨0, ?_⟩
  have : i % 2 = 0 ∨ i % 2 = 1 := by omega
  rcases this with h | h <;> simp [h]
/-- an edge appended -/
theorem app_ed {w : World} {B q : Nat} {u : Value} {z : List Ed} {x : Ed} (ho : EO B u z w) (ht : TlE u w) (c0 : w.cell? ⟨q, 0, none⟩ = some (.int .i64 x.1)) (c1 : w.cell? ⟨q, 1, none⟩ = some (.int .i64 x.2)) (hl : z.length ≤ 1048576) (hB : B ≤ w.heap.size) :
    ∃ a n c w', (Builtin.append_ #[23, 23] 23 #[u, .slice (some ⟨q, 0, none⟩) 1 1]).run Tryd.prog w = .ok (.slice a n c) w' ∧ EO B (.slice a n c) (z ++ [x]) w' ∧ w.grownBy w' u.ownBlock ∧ TlE (.slice a n c) w' := by
  obtain ⟨i0, hi, hz0, hz1, hz2⟩ := info_parts infoEd
  have hnews : ∀ j v, [Value.int .i64 x.1, Value.int .i64 x.2][j]? = some v → w.cell? ((⟨q, 0, none⟩ : Addr).add j) = some v := fun j v hj => by
    match j, hj with
    | 0, hj => simp at hj; subst hj; exact c0
    | 1, hj => simp at hj; subst hj; simpa [Addr.add] using c1
    | (j + 2), hj => simp at hj
  have h1 : ∀ v ∈ [Value.int .i64 x.1, Value.int .i64 x.2], v.oneCell' = true := by intro v hv; simp at hv; rcases hv with rfl | rfl <;> rfl
  obtain ⟨v', w', r, o, gr, _⟩ := run_append_own (P := Tryd.prog) w B 23 23 49 i0 (.agg #[.int .i64 0, .int .i64 0]) 2 16 Tryd.underlying23 hi hz0 hz1 hz2 rfl (by decide) u z.length (edCells z) ho ⟨q, 0, none⟩ 1 1 [.int .i64 x.1, .int .i64 x.2] rfl hnews h1 (by unfold maxLen; omega) (by omega) hB
  have hx : ∀ v ∈ [Value.int .i64 x.1, Value.int .i64 x.2], In64 v := by intro v hv; simp at hv; rcases hv with rfl | rfl <;> exact ⟨_, rfl⟩
  have T : TlE v' w' := by
    rcases ho.2 with ⟨rfl, hz⟩ | ⟨g, cap, cur, rfl, hbg, hg, hnc, hcm, hcs, htake⟩
    · have hr' := run_append_nil (P := Tryd.prog) w 23 23 49 i0 (.agg #[.int .i64 0, .int .i64 0]) Tryd.underlying23 hi hz0 ⟨q, 0, none⟩ 1 1 [.int .i64 x.1, .int .i64 x.2] (by rw [hz1]; rfl) hnews (by decide) (by decide) (by rw [hz2]; decide)
      rw [hr'] at r
      cases r
      intro g hg
      have e : w.heap.size = g := Option.some.inj hg
      subst e
      refine ⟨_, heap_alloc_new w.drew _, fun v hv => ?_⟩
      rw [Array.toList_append] at hv
      rcases List.mem_append.1 hv with h' | h'
      · exact hx v (by simpa using h')
      · exact zero_in _ v h'
    · obtain ⟨cur', hc1, hc2⟩ := ht g rfl
      rw [hg] at hc1
      cases hc1
      by_cases hroom : z.length + 1 ≤ cap
      · have hr' := run_append_room (P := Tryd.prog) w 23 23 49 i0 Tryd.underlying23 hi g z.length cap cur hg ⟨q, 0, none⟩ 1 1 [.int .i64 x.1, .int .i64 x.2] (by rw [hz1]; rfl) hnews h1 hroom (by rw [hz1, hcs]; simp; omega)
        rw [hr'] at r
        cases r
        intro g' hg'
        have e : g = g' := Option.some.inj hg'
        subst e
        refine ⟨_, setRow_heap w g cur _ 49 _ hg, fun v hv => ?_⟩
        simp only [List.mem_append] at hv
        rcases hv with (h' | h') | h'
        · exact hc2 v (List.mem_of_mem_take h')
        · exact hx v h'
        · exact hc2 v (List.mem_of_mem_drop h')
      · have holds : ∀ j v, (edCells z)[j]? = some v → w.cell? ((⟨g, 0, none⟩ : Addr).add j) = some v := World.ownsRow.cells ho (g := g) rfl
        have hxl := ho.1
        have hr' := run_append_grow (P := Tryd.prog) w 23 23 49 i0 (.agg #[.int .i64 0, .int .i64 0]) Tryd.underlying23 hi hz0 ⟨g, 0, none⟩ z.length cap (edCells z) (by rw [hz1]; exact hxl) holds ⟨q, 0, none⟩ 1 1 [.int .i64 x.1, .int .i64 x.2] (by rw [hz1]; rfl) hnews (by omega) (by omega) (by rw [hz2]; exact growslice_fits (by omega) (by omega))
        rw [hr'] at r
        cases r
        intro g' hg'
        have e : w.heap.size = g' := Option.some.inj hg'
        subst e
        refine ⟨_, heap_alloc_new w.drew _, fun v hv => ?_⟩
        rw [Array.toList_append, Array.toList_append] at hv
        rcases List.mem_append.1 hv with h' | h'
        · rcases List.mem_append.1 h' with h' | h'
          · rw [← htake] at h'; exact hc2 v (List.mem_of_mem_take (by simpa using h'))
          · exact hx v (by simpa using h')
        · exact zero_in _ v h'
  have O2 : w'.ownsRow B 49 2 v' (z.length + 1) (edCells z ++ [.int .i64 x.1, .int .i64 x.2]) := o
  obtain ⟨a, n, c, rfl⟩ : ∃ a n c, v' = .slice a n c := by
    rcases o.2 with ⟨h, _⟩ | ⟨g, cap, _, h, _⟩
    · exact ⟨_, _, _, h⟩
    · exact ⟨_, _, _, h⟩
  exact ⟨a, n, c, w', r, EO.snoc O2, gr, T⟩
end Go.Proofs.YtpjcdfphllbonaaDoor
