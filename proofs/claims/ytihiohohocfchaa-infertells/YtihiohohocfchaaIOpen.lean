/-
  An argument that is a slice of inferences: what it holds. Condition: it takes at most 2^47 bytes (the form says so).
-/
import Derived.Test.YtihiohohocfchaaIFw
import Derived.Test.YtihiohohocfchaaICh
import Derived.Deep.SlicePairs
import Derived.Lib.SmallJoins
namespace Go.Proofs.Ytihiohohocfchaa
set_option maxRecDepth 100000
set_option linter.unusedVariables false
open Go.ChangeShapes Go.WideShapes Go.ChangeAt Go.RowKit Go.Deep

theorem bulk_le {H : Type} {d : DataW H} {ds : List (DataW H)} (h : d ∈ ds) : Rows.uptoBulk d ≤ Rows.uptoBulkAll ds := by
  induction ds with
  | nil => simp at h
  | cons x r ih =>
    rw [Rows.uptoBulkAll]
    rcases List.mem_cons.1 h with rfl | h
    · omega
    · have := ih h; omega
theorem bulk_count {H : Type} (ds : List (DataW H)) : ds.length ≤ Rows.uptoBulkAll ds := by
  induction ds with
  | nil => simp
  | cons x r ih =>
    rw [Rows.uptoBulkAll, List.length_cons]
    have : 1 ≤ Rows.uptoBulk x := by
      cases x with
      | lit l => cases l <;> simp [Rows.uptoBulk]
      | _ => simp [Rows.uptoBulk]
    omega
set_option maxRecDepth 100000 in
theorem open_infers {H : Type} {enc : TypeId × Value → H} {W : World} {v : Value} {d : DataW H} {ps : List MemPlace} {base : Nat} {ts : List TypeId} {ds : List (DataW H)} {j : Nat}
    (hsz : (DataW.weightsEach Try.prog ts ds).all (· ≤ reachBytes) = true) (htj : ts[j]? = some 23) (hdj : ds[j]? = some d)
    (hval : Value.okWide Try.prog W .any base 23 v) (h : DataW.Trod enc Try.prog W 0 (fun _ => true) true 23 v d ps) :
    ∃ z, McIn W v z ∧ z.length ≤ Rows.uptoBulk d ∧ ∀ x ∈ z, (x.1.length ≤ Rows.uptoBulk d ∧ x.1.length ≤ maxLen) ∧ x.2.length ≤ Rows.uptoBulk d ∧ x.2.length ≤ maxLen := by
  obtain ⟨a0, len0, cap0, rfl⟩ := okWide_slice Try.underlying23 hval
  obtain ⟨fuel, hf⟩ := h
  have hu := Try.underlying23
  rcases open_slice_pairs hu Try.underlying47 (by kernel_rfl) (by kernel_rfl) (by kernel_rfl) (by kernel_rfl) (by kernel_rfl) hf with ⟨hcs, _⟩ | ⟨a, len, cap, m, n, V0, V1, D0, D1, P0, P1, hcs, _, hl, hm, hmm, hx, hi⟩
  · simp [Value.cells] at hcs
    obtain ⟨rfl, rfl, rfl⟩ := hcs
    exact ⟨[], ⟨none, 0, rfl, Nat.le_refl _, Nat.zero_le _, Nat.zero_le _, .inl rfl⟩, Nat.zero_le _, fun x hx => absurd hx List.not_mem_nil⟩
  · simp [Value.cells] at hcs
    obtain ⟨rfl, rfl, rfl⟩ := hcs
    simp only [if_true] at hmm
    subst hmm
    simp only [Prod.mk.injEq] at hx
    have hs := sized_slice hsz htj (hx.1 ▸ hdj) hu
    have hb : (Try.prog).bytesOf 47 = 32 := by kernel_rfl
    rw [hb] at hs
    simp only [List.length_map, List.length_range, reachBytes] at hs
    have each : ∀ i, i < m → ∃ q : Mc, W.cell? (a.add (i * 2)) = some (.string (bs q.1)) ∧ W.cell? (a.add (i * 2 + 1)) = some (.string (bs q.2)) ∧ D0 i = .lit (.string q.1) ∧ D1 i = .lit (.string q.2) ∧ q.1.length ≤ maxLen ∧ q.2.length ≤ maxLen := by
      intro i him
      obtain ⟨h1, h2, h3, h4⟩ := hi i him
      obtain ⟨x, hx0, hx1, hx2⟩ := DataW.trod_string Try.underlying9 h3
      obtain ⟨s, hs0, hs1, hs2⟩ := DataW.trod_string Try.underlying9 h4
      simp at hx0 hs0
      simp only [Prod.mk.injEq] at hs1 hx1
      exact ⟨(x.data.toList, s.data.toList), by rw [h1, hx0, bs_of], by rw [h2, hs0, bs_of], hx1.1, hs1.1, by rw [size_list]; exact hx2, by rw [size_list]; exact hs2⟩
    obtain ⟨q, hq⟩ := choose_lt each
    have hzl : ((List.range len0).map q).length = len0 := by simp
    have hd : d = .slice ((List.range len0).map fun i => .agg [D0 i, D1 i]) ((List.range (m - len0)).map fun j => .agg [D0 (len0 + j), D1 (len0 + j)]) := hx.1
    have hbd : Rows.uptoBulk d = Rows.uptoBulkAll ((List.range len0).map fun i => .agg [D0 i, D1 i]) + Rows.uptoBulkAll ((List.range (m - len0)).map fun j => .agg [D0 (len0 + j), D1 (len0 + j)]) + 1 := by rw [hd, Rows.uptoBulk]
    refine ⟨(List.range len0).map q, ⟨some a, m, by rw [hzl], by rw [hzl]; exact hl, hm, by rw [hzl]; omega, ?_⟩, ?_, ?_⟩
    · by_cases h0 : len0 = 0
      · left; subst h0; rfl
      · right
        obtain ⟨b, off, itf⟩ := a
        have ha : itf = none := by
          simpa [Addr.add] using World.cell?_spot (hq 0 (by omega)).1
        subst ha
        have addr : ∀ k, (⟨b, off, none⟩ : Addr).add k = ⟨b, off + k, none⟩ := by
          intro k
          unfold Addr.add
          by_cases e : k = 0 <;> simp [e]
        refine ⟨b, off, rfl, ?_, fun k x hk => ?_⟩
        · have := (hq 0 (by omega)).1
          rw [addr] at this
          exact World.block_lt_of_cell? _ _ this
        · have hk1 : k < len0 := by
            rcases Nat.lt_or_ge k len0 with h' | h'
            · exact h'
            · rw [List.getElem?_eq_none (by omega)] at hk; cases hk
          rw [List.getElem?_map, List.getElem?_range hk1] at hk
          simp at hk
          subst hk
          obtain ⟨e1, e2, _⟩ := hq k (by omega)
          rw [addr] at e1 e2
          exact ⟨e1, e2⟩
    · have := bulk_count ((List.range len0).map fun i => (.agg [D0 i, D1 i] : DataW H))
      rw [List.length_map, List.length_range] at this
      rw [hbd, hzl]
      omega
    · intro x hx'
      obtain ⟨i, hi', rfl⟩ := List.mem_map.1 hx'
      rw [List.mem_range] at hi'
      obtain ⟨_, _, e0, e3, e5, e4⟩ := hq i (by omega)
      have h1 := bulk_le (List.mem_map_of_mem (f := fun i => (.agg [D0 i, D1 i] : DataW H)) (List.mem_range.2 hi'))
      have h2 : (q i).1.length + (q i).2.length + 1 ≤ Rows.uptoBulk (.agg [D0 i, D1 i] : DataW H) := by
        rw [Rows.uptoBulk, Rows.uptoBulkAll, Rows.uptoBulkAll, e0, e3, Rows.uptoBulk, Rows.uptoBulk]
        omega
      rw [hbd]
      exact ⟨⟨by omega, e5⟩, by omega, e4⟩
theorem open_inf {H : Type} {enc : TypeId × Value → H} {W : World} {v : Value} {d : DataW H} {ps : List MemPlace} {base : Nat} {ts : List TypeId} {ds : List (DataW H)} {j : Nat}
    (hsz : (DataW.weightsEach Try.prog ts ds).all (· ≤ reachBytes) = true) (htj : ts[j]? = some 23) (hdj : ds[j]? = some d)
    (hval : Value.okWide Try.prog W .any base 23 v) (h : DataW.Trod enc Try.prog W 0 (fun _ => true) true 23 v d ps) : ∃ z, IIn W v z := by
  obtain ⟨z, hz, _, hx⟩ := open_infers hsz htj hdj hval h
  exact ⟨z, hz, fun k hk => ⟨(hx _ (mem_at hk)).1.2, (hx _ (mem_at hk)).2.2⟩⟩
end Go.Proofs.Ytihiohohocfchaa
