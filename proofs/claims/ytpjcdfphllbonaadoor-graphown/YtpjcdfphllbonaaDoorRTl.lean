/-
  Rows of strings of the call's own whose block holds strings alone, also behind the slice's end; append keeps this. No condition.
-/
import Derived.Test.YtpjcdfphllbonaaDoorGCt
namespace Go.Proofs.YtpjcdfphllbonaaDoor
set_option maxRecDepth 100000
set_option linter.unusedVariables false
open Go.ChangeShapes Go.WideShapes Go.ChangeAt Go.RowKit

/-- a string of at most 2^32 bytes -/
def Ss (u : Value) : Prop := ∃ s : ByteArray, u = .string s ∧ s.size ≤ 4294967296
/-- every cell of the slice's block is such a string -/
def Tl (v : Value) (w : World) : Prop := ∀ g, v.ownBlock = some g → ∃ cur : Array Value, w.heap[g]? = some (.cells cur 9 (0, 0)) ∧ ∀ u ∈ cur.toList, Ss u
theorem Tl.nil (w : World) (n c : Nat) : Tl (.slice none n c) w := fun g h => by cases h
theorem heap_lt {w : World} {g : Nat} {o : Obj} (h : w.heap[g]? = some o) : g < w.heap.size := (Array.getElem?_eq_some_iff.1 h).1
theorem Tl.later {v : Value} {w w' : World} (h : Tl v w) (hb : Below w.heap.size w w') : Tl v w' := fun g hg => by
  obtain ⟨cur, h1, h2⟩ := h g hg
  exact ⟨cur, (hb.block g (heap_lt h1)).trans h1, h2⟩
theorem Tl.kept {v : Value} {w w' : World} {row : Option Nat} (h : Tl v w) (hg : w.grownBy w' row) (hne : v.ownBlock = none ∨ v.ownBlock ≠ row) : Tl v w' := fun g hv => by
  obtain ⟨cur, h1, h2⟩ := h g hv
  refine ⟨cur, (hg.block g (heap_lt h1) ?_).trans h1, h2⟩
  rcases hne with h' | h'
  · rw [h'] at hv; cases hv
  · rw [← hv]; exact h'
theorem Tl.alloc {v : Value} {w : World} (h : Tl v w) (o : Obj) : Tl v (w.alloc o) := h.later ((Below.refl _ w).alloc (Nat.le_refl _) o)
theorem tl_one (w : World) (x : ByteArray) (hx : x.size ≤ 4294967296) : Tl (.slice (some ⟨w.heap.size, 0, none⟩) 1 1) (w.alloc (.cells #[.string x] 9)) := fun g hg => by
  have e : w.heap.size = g := Option.some.inj hg
  subst e
  exact ⟨_, heap_alloc_new _ _, fun u hu => by simp at hu; exact ⟨x, hu, hx⟩⟩
theorem zero_ss (n : Nat) : ∀ u ∈ (Builtin.zeroCells (Value.cells (.string ByteArray.empty)) n).toList, Ss u := by
  intro u hu
  simp only [Builtin.zeroCells, Value.cells, Array.toList_map, List.mem_map] at hu
  obtain ⟨i, _, rfl⟩ := hu
  refine ⟨ByteArray.empty, ?_, by decide⟩
  simp [Nat.mod_one]

theorem run_append_tl (w : World) (base : Nat) (ty : TypeId) (i0 : TypeInfo) (hi : Tryd.prog.info? 9 = some i0) (hz0 : i0.zero = some (.string ByteArray.empty)) (hz1 : i0.size = 1) (hz2 : i0.bytes = 16)
    (v : Value) (n : Nat) (xs : List Value) (hown : w.ownsRow base 9 1 v n xs) (ht : Tl v w) (ad : Addr) (c : Nat) (x : ByteArray) (hnews : ∀ j u, [Value.string x][j]? = some u → w.cell? (ad.add j) = some u) (hxs : x.size ≤ 4294967296)
    (h63 : n + 1 ≤ maxLen) (hbytes : (n + 1) * 16 ≤ 140737488355328) (hbase : base ≤ w.heap.size) :
    ∃ v' w', (Builtin.append_ #[22, 22] ty #[v, .slice (some ad) 1 c]).run Tryd.prog w = .ok v' w' ∧ w'.ownsRow base 9 1 v' (n + 1) (xs ++ [.string x]) ∧ w.grownBy w' v.ownBlock ∧ Tl v' w' := by
  have h1 : ∀ u ∈ [Value.string x], u.oneCell' = true := by intro u hu; simp at hu; subst hu; rfl
  obtain ⟨v', w', hr, h2, h3, _⟩ := run_append_own (P := Tryd.prog) w base 22 ty 9 i0 (.string ByteArray.empty) 1 16 Tryd.underlying22 hi hz0 hz1 hz2 rfl (by decide) v n xs hown ad 1 c [.string x] rfl hnews h1 h63 hbytes hbase
  refine ⟨v', w', hr, h2, h3, ?_⟩
  have hx : Ss (.string x) := ⟨x, rfl, hxs⟩
  rcases hown.2 with ⟨rfl, rfl⟩ | ⟨g, cap, cur, rfl, hbg, hg, hnc, hcm, hcs, htake⟩
  · have hr' := run_append_nil (P := Tryd.prog) w 22 ty 9 i0 (.string ByteArray.empty) Tryd.underlying22 hi hz0 ad 1 c [.string x] (by rw [hz1]; rfl) hnews (by decide) (by decide) (by rw [hz2]; decide)
    rw [hr'] at hr
    cases hr
    intro g hg
    have e : w.heap.size = g := Option.some.inj hg
    subst e
    refine ⟨_, heap_alloc_new w.drew _, fun u hu => ?_⟩
    rw [Array.toList_append] at hu
    rcases List.mem_append.1 hu with h' | h'
    · simp at h'; subst h'; exact hx
    · exact zero_ss _ u h'
  · obtain ⟨cur', hc1, hc2⟩ := ht g rfl
    rw [hg] at hc1
    cases hc1
    by_cases hroom : n + 1 ≤ cap
    · have hr' := run_append_room (P := Tryd.prog) w 22 ty 9 i0 Tryd.underlying22 hi g n cap cur hg ad 1 c [.string x] (by rw [hz1]; rfl) hnews h1 hroom (by rw [hz1, hcs]; simp; omega)
      rw [hr'] at hr
      cases hr
      intro g' hg'
      have e : g = g' := Option.some.inj hg'
      subst e
      refine ⟨_, setRow_heap w g cur _ 9 _ hg, fun u hu => ?_⟩
      simp only [List.mem_append] at hu
      rcases hu with (h' | h') | h'
      · exact hc2 u (List.mem_of_mem_take h')
      · simp at h'; subst h'; exact hx
      · exact hc2 u (List.mem_of_mem_drop h')
    · have holds : ∀ j u, xs[j]? = some u → w.cell? ((⟨g, 0, none⟩ : Addr).add j) = some u := hown.cells (g := g) rfl
      have hxl := hown.1
      have hr' := run_append_grow (P := Tryd.prog) w 22 ty 9 i0 (.string ByteArray.empty) Tryd.underlying22 hi hz0 ⟨g, 0, none⟩ n cap xs (by rw [hz1]; exact hxl) holds ad 1 c [.string x] (by rw [hz1]; rfl) hnews (by omega) (by unfold maxLen at h63; omega) (by rw [hz2]; exact growslice_fits (by omega) hbytes)
      rw [hr'] at hr
      cases hr
      intro g' hg'
      have e : w.heap.size = g' := Option.some.inj hg'
      subst e
      refine ⟨_, heap_alloc_new w.drew _, fun u hu => ?_⟩
      rw [Array.toList_append, Array.toList_append] at hu
      rcases List.mem_append.1 hu with h' | h'
      · rcases List.mem_append.1 h' with h' | h'
        · rw [← htake] at h'; exact hc2 u (List.mem_of_mem_take h')
        · simp at h'; subst h'; exact hx
      · exact zero_ss _ u h'
theorem wpList_append_tl (w : World) {ops : Array Oper} {rest : List Oper} {o : Oper} {a : Act} {Q : Exit → Act → World → Prop} (hgd : o.guard = none) (s x : Operand)
    (ho : o.op = .call { callee := .builtin .append, args := #[s, x], argTypes := #[22, 22] })
    (base : Nat) (i0 : TypeInfo) (hi : Tryd.prog.info? 9 = some i0) (hz0 : i0.zero = some (.string ByteArray.empty)) (hz1 : i0.size = 1) (hz2 : i0.bytes = 16)
    (v : Value) (n : Nat) (xs : List Value) (hs : a.eval s = v) (hown : w.ownsRow base 9 1 v n xs) (ht : Tl v w)
    (ad : Addr) (c : Nat) (y : ByteArray) (hx : a.eval x = .slice (some ad) 1 c) (hnews : ∀ j u, [Value.string y][j]? = some u → w.cell? (ad.add j) = some u) (hxs : y.size ≤ 4294967296)
    (h63 : n + 1 ≤ maxLen) (hbytes : (n + 1) * 16 ≤ 140737488355328) (hbase : base ≤ w.heap.size)
    (h : ∀ v' w', w'.ownsRow base 9 1 v' (n + 1) (xs ++ [.string y]) → w.grownBy w' v.ownBlock → Tl v' w' → wpList Tryd.prog ops Q rest (a.put o.dst v') w') : wpList Tryd.prog ops Q (o :: rest) a w := by
  obtain ⟨v', w', hr, h2, h3, h4⟩ := run_append_tl w base o.type i0 hi hz0 hz1 hz2 v n xs hown ht ad c y hnews hxs h63 hbytes hbase
  exact Lib.wpList_append_run w hgd s x 22 22 ho v (.slice (some ad) 1 c) hs hx v' w' hr (h v' w' h2 h3 h4)
end Go.Proofs.YtpjcdfphllbonaaDoor
