/-
  An argument that is a graph: what it holds. Condition: each slice in it takes at most 2^47 bytes (the form says so).
-/
import Derived.Test.YtpjcdfphllbonaaDoorGEd
import Derived.Deep.SlicePairs
import Derived.Lib.SmallJoins
namespace Go.Proofs.YtpjcdfphllbonaaDoor
set_option maxRecDepth 100000
set_option linter.unusedVariables false
open Go.ChangeShapes Go.WideShapes Go.ChangeAt Go.RowKit Go.Deep

set_option maxRecDepth 100000 in
theorem sin_cell {H : Type} {enc : TypeId × Value → H} {W : World} {V : Value} {D : DataW H} {Pl : List MemPlace} {fuel : Nat}
    (h : DataW.trod enc Tryd.prog W 0 (fun _ => true) true fuel 22 [V] = some (D, Pl)) (hw : ∀ n ∈ D.weights Tryd.prog 22, n ≤ reachBytes) : ∃ z, SIn W V z := by
  have hu := Tryd.underlying22
  rcases open_strings hu Tryd.underlying9 (by kernel_rfl) h with ⟨hcs, _⟩ | ⟨a, len, cap, ss, hcs, _, hl, hm, hss, hx, hcell, hmax⟩
  · simp at hcs
    subst hcs
    exact ⟨[], none, 0, rfl, Nat.le_refl _, by simp, fun x hx => absurd hx List.not_mem_nil, .inl rfl⟩
  · simp at hcs
    subst hcs
    simp only [if_true] at hss
    simp only [Prod.mk.injEq] at hx
    have hs := hw (((strs (H := H) (ss.take len)).length + (strs (H := H) (ss.drop len)).length) * Tryd.prog.bytesOf 9) (by rw [hx.1]; simp [DataW.weights, hu])
    have hb : Tryd.prog.bytesOf 9 = 16 := by kernel_rfl
    rw [hb] at hs
    simp only [strs, List.length_map, List.length_take, List.length_drop, reachBytes] at hs
    have hlen : ((ss.take len).map fun s => s.data.toList).length = len := by rw [List.length_map, List.length_take]; omega
    refine ⟨(ss.take len).map fun s => s.data.toList, some a, cap, by rw [hlen], by omega, by omega, ?_, ?_⟩
    · intro x hx'
      obtain ⟨s, hs', rfl⟩ := List.mem_map.1 hx'
      rw [size_list]
      exact hmax s (List.mem_of_mem_take hs')
    · by_cases h0 : len = 0
      · left; subst h0; simp
      · right
        obtain ⟨b, off, spot⟩ := a
        have hspot : spot = none := by simpa [Addr.add] using World.cell?_spot (hcell 0 (by omega))
        subst hspot
        have hc' : ∀ k, k < len → W.cell? ⟨b, off + k, none⟩ = some (.string (ss.getD k ByteArray.empty)) := fun k hk => by
          rw [← hcell k (by omega)]
          congr 1
          unfold Addr.add
          by_cases e : k = 0 <;> simp [e]
        refine ⟨b, off, rfl, World.block_lt_of_cell? _ _ (hc' 0 (by omega)), fun k hk => ?_⟩
        rw [hlen] at hk
        rw [hc' k hk]
        have e1 : k < (ss.take len).length := by rw [List.length_take]; omega
        have e2 : k < ss.length := by omega
        rw [List.getD, List.getD, List.getElem?_map, List.getElem?_eq_getElem e1, List.getElem?_eq_getElem e2]
        simp [bs_of]
set_option maxRecDepth 100000 in
theorem ein_cell {H : Type} {enc : TypeId × Value → H} {W : World} {V : Value} {d : DataW H} {Pl : List MemPlace} {fuel : Nat}
    (hf : DataW.trod enc Tryd.prog W 0 (fun _ => true) true fuel 23 [V] = some (d, Pl)) (hw : ∀ n ∈ d.weights Tryd.prog 23, n ≤ reachBytes) : ∃ z, EIn W V z := by
  have hu := Tryd.underlying23
  rcases open_slice_pairs hu Tryd.underlying49 (by kernel_rfl) (by kernel_rfl) (by kernel_rfl) (by kernel_rfl) (by kernel_rfl) hf with ⟨hcs, _⟩ | ⟨a, len0, cap, m, n, V0, V1, D0, D1, P0, P1, hcs, _, hl, hm, hmm, hx, hi⟩
  · simp at hcs
    subst hcs
    exact ⟨[], ein_nil W⟩
  · simp at hcs
    subst hcs
    simp only [if_true] at hmm
    subst hmm
    simp only [Prod.mk.injEq] at hx
    have hd : d = .slice ((List.range len0).map fun i => .agg [D0 i, D1 i]) ((List.range (m - len0)).map fun j => .agg [D0 (len0 + j), D1 (len0 + j)]) := hx.1
    have hs := hw ((len0 + (m - len0)) * Tryd.prog.bytesOf 49) (by rw [hd]; simp [DataW.weights, hu])
    have hb : (Tryd.prog).bytesOf 49 = 16 := by kernel_rfl
    rw [hb] at hs
    simp only [reachBytes] at hs
    have each : ∀ i, i < m → ∃ q : Ed, W.cell? (a.add (i * 2)) = some (.int .i64 q.1) ∧ W.cell? (a.add (i * 2 + 1)) = some (.int .i64 q.2) := by
      intro i him
      obtain ⟨h1, h2, h3, h4⟩ := hi i him
      obtain ⟨x, hx0, _, _⟩ := DataW.trod_int Tryd.underlying3 h3
      obtain ⟨y, hy0, _, _⟩ := DataW.trod_int Tryd.underlying3 h4
      simp at hx0 hy0
      exact ⟨(x, y), by rw [h1, hx0], by rw [h2, hy0]⟩
    obtain ⟨q, hq⟩ := choose_lt each
    have hzl : ((List.range len0).map q).length = len0 := by simp
    refine ⟨(List.range len0).map q, some a, m, by rw [hzl], by rw [hzl]; exact hl, hm, by rw [hzl]; omega, ?_⟩
    by_cases h0 : len0 = 0
    · left; subst h0; rfl
    · right
      obtain ⟨b, off, itf⟩ := a
      have ha : itf = none := by
        simpa [Addr.add] using World.cell?_spot (hq 0 (by omega)).1
      subst ha
      have addr : ∀ k, (⟨b, off, none⟩ : Addr).add k = ⟨b, off + k, none⟩ := by
        intro k
        unfold Addr.add
        by_cases e : k = 0 <;> simp [e]
      refine ⟨b, off, rfl, ?_, fun k x hk => ?_⟩
      · have := (hq 0 (by omega)).1
        rw [addr] at this
        exact World.block_lt_of_cell? _ _ this
      · have hk1 : k < len0 := by
          rcases Nat.lt_or_ge k len0 with h' | h'
          · exact h'
          · rw [List.getElem?_eq_none (by omega)] at hk; cases hk
        rw [List.getElem?_map, List.getElem?_range hk1] at hk
        simp at hk
        subst hk
        obtain ⟨e1, e2⟩ := hq k (by omega)
        rw [addr] at e1 e2
        exact ⟨e1, e2⟩
theorem weights_graph {H : Type} {D0 D1 D2 D3 : DataW H} {n : Nat} (h : n ∈ D0.weights Tryd.prog 22 ∨ n ∈ D1.weights Tryd.prog 23) : n ∈ (DataW.agg [D0, D1, D2, D3]).weights Tryd.prog 26 := by
  have hu := Tryd.underlying26
  rw [DataW.weights, hu]
  simp only [DataW.weightsEach, List.map_cons, List.map_nil, List.append_nil, List.mem_append]
  rcases h with h | h
  · exact .inl h
  · exact .inr (.inl h)
theorem cellsGr : (Tryd.prog).cellsOf 26 = 4 := by kernel_rfl
theorem u64_of {n : Int} (h : (Lit.int .u64 n).wf = true) : ∃ s : Bv, n = (s.toNat : Int) := by
  simp [Lit.wf] at h
  have e0 : IntKind.u64.min = 0 := by decide +kernel
  have e1 : IntKind.u64.max = 18446744073709551615 := by decide +kernel
  rw [e0, e1] at h
  refine ⟨BitVec.ofInt 64 n, ?_⟩
  rw [BitVec.toNat_ofInt]
  omega
set_option maxRecDepth 100000 in
theorem open_graph {H : Type} {enc : TypeId × Value → H} {W : World} {v : Value} {d : DataW H} {ps : List MemPlace} {base : Nat} {ts : List TypeId} {ds : List (DataW H)} {j : Nat}
    (hsz : (DataW.weightsEach Tryd.prog ts ds).all (· ≤ reachBytes) = true) (htj : ts[j]? = some 26) (hdj : ds[j]? = some d)
    (hval : Value.okWide Tryd.prog W .any base 26 v) (h : DataW.Trod enc Tryd.prog W 0 (fun _ => true) true 26 v d ps) : ∃ g, GIn W v g := by
  obtain ⟨c0, c1, c2, c3, y0, y1, y2, y3, n, rfl, rfl, rfl, h0, h1, h2, h3⟩ := Go.Joins.open_agg4 Tryd.underlying26 (by kernel_rfl) cellsGr hval h
  have wts : ∀ n, (n ∈ y0.1.weights Tryd.prog 22 ∨ n ∈ y1.1.weights Tryd.prog 23) → n ≤ reachBytes := fun n hn => by
    have := List.all_eq_true.1 hsz _ (DataW.weights_mem_each htj hdj n (weights_graph hn))
    simpa using this
  obtain ⟨z0, e0⟩ := sin_cell (D := y0.1) (Pl := y0.2) h0 (fun n hn => wts n (.inl hn))
  obtain ⟨z1, e1⟩ := ein_cell (d := y1.1) (Pl := y1.2) h1 (fun n hn => wts n (.inr hn))
  obtain ⟨p, hp, _, wp⟩ := DataW.trod_int Tryd.underlying24 h2
  obtain ⟨m, hm, _, wm⟩ := DataW.trod_int Tryd.underlying24 h3
  obtain ⟨s, rfl⟩ := u64_of wp
  obtain ⟨t, rfl⟩ := u64_of wm
  simp at hp hm
  subst hp hm
  exact ⟨⟨z0, z1, s, t⟩, c0, c1, rfl, e0, e1⟩
end Go.Proofs.YtpjcdfphllbonaaDoor
