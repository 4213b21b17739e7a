/-
  An argument that is a rule, or a slice of rules: what it holds. Condition: each slice in it takes at most 2^47 bytes (the form says so).
-/
import Derived.Test.YtihiohohocfchaaIOpen
import Derived.Test.YtihiohohocfchaaRIn
import Derived.Deep.SlicePairs
import Derived.Lib.SmallJoins
namespace Go.Proofs.Ytihiohohocfchaa
set_option maxRecDepth 100000
set_option linter.unusedVariables false
open Go.ChangeShapes Go.WideShapes Go.ChangeAt Go.RowKit Go.Deep

theorem weights_all {H : Type} {P : Program} {e : TypeId} : ∀ {ds : List (DataW H)} {x : DataW H} {n : Nat}, x ∈ ds → n ∈ x.weights P e → n ∈ DataW.weightsAll P e ds
  | [], _, _, h, _ => absurd h List.not_mem_nil
  | d :: r, x, n, h, hn => by
    rw [DataW.weightsAll, List.mem_append]
    rcases List.mem_cons.1 h with rfl | h
    · exact .inl hn
    · exact .inr (weights_all h hn)
set_option maxRecDepth 100000 in
theorem sin_cell {H : Type} {enc : TypeId × Value → H} {W : World} {V : Value} {D : DataW H} {Pl : List MemPlace} {fuel : Nat}
    (h : DataW.trod enc Try.prog W 0 (fun _ => true) true fuel 24 [V] = some (D, Pl)) (hw : ∀ n ∈ D.weights Try.prog 24, n ≤ reachBytes) : ∃ z, SIn W V z := by
  have hu := Try.underlying24
  rcases open_strings hu Try.underlying9 (by kernel_rfl) h with ⟨hcs, _⟩ | ⟨a, len, cap, ss, hcs, _, hl, hm, hss, hx, hcell, hmax⟩
  · simp at hcs
    subst hcs
    exact ⟨[], none, 0, rfl, Nat.le_refl _, by simp, fun x hx => absurd hx List.not_mem_nil, .inl rfl⟩
  · simp at hcs
    subst hcs
    simp only [if_true] at hss
    simp only [Prod.mk.injEq] at hx
    have hs := hw (((strs (H := H) (ss.take len)).length + (strs (H := H) (ss.drop len)).length) * Try.prog.bytesOf 9) (by rw [hx.1]; simp [DataW.weights, hu])
    have hb : Try.prog.bytesOf 9 = 16 := by kernel_rfl
    rw [hb] at hs
    simp only [strs, List.length_map, List.length_take, List.length_drop, reachBytes] at hs
    have hlen : ((ss.take len).map fun s => s.data.toList).length = len := by rw [List.length_map, List.length_take]; omega
    refine ⟨(ss.take len).map fun s => s.data.toList, some a, cap, by rw [hlen], by omega, by omega, ?_, ?_⟩
    · intro x hx'
      obtain ⟨s, hs', rfl⟩ := List.mem_map.1 hx'
      rw [size_list]
      exact hmax s (List.mem_of_mem_take hs')
    · by_cases h0 : len = 0
      · left; subst h0; simp
      · right
        obtain ⟨b, off, spot⟩ := a
        have hspot : spot = none := by simpa [Addr.add] using World.cell?_spot (hcell 0 (by omega))
        subst hspot
        have hc' : ∀ k, k < len → W.cell? ⟨b, off + k, none⟩ = some (.string (ss.getD k ByteArray.empty)) := fun k hk => by
          rw [← hcell k (by omega)]
          congr 1
          unfold Addr.add
          by_cases e : k = 0 <;> simp [e]
        refine ⟨b, off, rfl, World.block_lt_of_cell? _ _ (hc' 0 (by omega)), fun k hk => ?_⟩
        rw [hlen] at hk
        rw [hc' k hk]
        have e1 : k < (ss.take len).length := by rw [List.length_take]; omega
        have e2 : k < ss.length := by omega
        rw [List.getD, List.getD, List.getElem?_map, List.getElem?_eq_getElem e1, List.getElem?_eq_getElem e2]
        simp [bs_of]
theorem weights_rule {H : Type} {D0 D1 : DataW H} {n : Nat} (h : n ∈ D0.weights Try.prog 24 ∨ n ∈ D1.weights Try.prog 24) : n ∈ (DataW.agg [D0, D1]).weights Try.prog 40 := by
  have hu := Try.underlying40
  rw [DataW.weights, hu]
  simp only [DataW.weightsEach, List.map_cons, List.map_nil, List.append_nil, List.mem_append]
  exact h
set_option maxRecDepth 100000 in
theorem open_rules {H : Type} {enc : TypeId × Value → H} {W : World} {v : Value} {d : DataW H} {ps : List MemPlace} {base : Nat} {ts : List TypeId} {ds : List (DataW H)} {j : Nat}
    (hsz : (DataW.weightsEach Try.prog ts ds).all (· ≤ reachBytes) = true) (htj : ts[j]? = some 22) (hdj : ds[j]? = some d)
    (hval : Value.okWide Try.prog W .any base 22 v) (h : DataW.Trod enc Try.prog W 0 (fun _ => true) true 22 v d ps) : ∃ z, RIn W v z := by
  obtain ⟨a0, len0, cap0, rfl⟩ := okWide_slice Try.underlying22 hval
  obtain ⟨fuel, hf⟩ := h
  have hu := Try.underlying22
  rcases open_slice_pairs hu Try.underlying40 (by kernel_rfl) (by kernel_rfl) (by kernel_rfl) (by kernel_rfl) (by kernel_rfl) hf with ⟨hcs, _⟩ | ⟨a, len, cap, m, n, V0, V1, D0, D1, P0, P1, hcs, _, hl, hm, hmm, hx, hi⟩
  · simp [Value.cells] at hcs
    obtain ⟨rfl, rfl, rfl⟩ := hcs
    exact ⟨[], none, 0, rfl, Nat.le_refl _, Nat.zero_le _, Nat.zero_le _, .inl rfl⟩
  · simp [Value.cells] at hcs
    obtain ⟨rfl, rfl, rfl⟩ := hcs
    simp only [if_true] at hmm
    subst hmm
    simp only [Prod.mk.injEq] at hx
    have hs := sized_slice hsz htj (hx.1 ▸ hdj) hu
    have hb : (Try.prog).bytesOf 40 = 48 := by kernel_rfl
    rw [hb] at hs
    simp only [List.length_map, List.length_range, reachBytes] at hs
    have hd : d = .slice ((List.range len0).map fun i => .agg [D0 i, D1 i]) ((List.range (m - len0)).map fun j => .agg [D0 (len0 + j), D1 (len0 + j)]) := hx.1
    have wts : ∀ i, i < len0 → ∀ n, (n ∈ (D0 i).weights Try.prog 24 ∨ n ∈ (D1 i).weights Try.prog 24) → n ≤ reachBytes := fun i hi' n hn => by
      have h1 : n ∈ d.weights Try.prog 22 := by
        rw [hd, DataW.weights, hu]
        refine List.mem_cons_of_mem _ (List.mem_append_left _ ?_)
        exact weights_all (List.mem_map.2 ⟨i, List.mem_range.2 hi', rfl⟩) (weights_rule hn)
      have := List.all_eq_true.1 hsz _ (DataW.weights_mem_each htj hdj n h1)
      simpa using this
    have each : ∀ i, i < len0 → ∃ q : Rl, SIn W (V0 i) q.1 ∧ SIn W (V1 i) q.2 := by
      intro i him
      obtain ⟨h1, h2, h3, h4⟩ := hi i (by omega)
      obtain ⟨z1, e1⟩ := sin_cell h3 (fun n hn => wts i him n (.inl hn))
      obtain ⟨z2, e2⟩ := sin_cell h4 (fun n hn => wts i him n (.inr hn))
      exact ⟨(z1, z2), e1, e2⟩
    obtain ⟨q, hq⟩ := choose_lt each
    have hzl : ((List.range len0).map q).length = len0 := by simp
    refine ⟨(List.range len0).map q, some a, m, by rw [hzl], by rw [hzl]; exact hl, hm, by rw [hzl]; omega, ?_⟩
    by_cases h0 : len0 = 0
    · left; subst h0; rfl
    · right
      obtain ⟨b, off, itf⟩ := a
      have ha : itf = none := by simpa [Addr.add] using World.cell?_spot (hi 0 (by omega)).1
      subst ha
      have addr : ∀ k, (⟨b, off, none⟩ : Addr).add k = ⟨b, off + k, none⟩ := by
        intro k
        unfold Addr.add
        by_cases e : k = 0 <;> simp [e]
      refine ⟨b, off, rfl, ?_, V0, V1, fun k hk => ?_⟩
      · have := (hi 0 (by omega)).1
        rw [addr] at this
        exact World.block_lt_of_cell? _ _ this
      · rw [hzl] at hk
        obtain ⟨e1, e2, _⟩ := hi k (by omega)
        rw [addr] at e1 e2
        have ht : tg ((List.range len0).map q) k = (q k).1 ∧ nd ((List.range len0).map q) k = (q k).2 := by
          unfold tg nd
          rw [List.getD, List.getElem?_map, List.getElem?_range hk]
          exact ⟨rfl, rfl⟩
        rw [ht.1, ht.2]
        exact ⟨e1, e2, (hq k hk).1, (hq k hk).2⟩
theorem cellsRl : (Try.prog).cellsOf 40 = 2 := by kernel_rfl
set_option maxRecDepth 100000 in
theorem open_rule {H : Type} {enc : TypeId × Value → H} {W : World} {v : Value} {d : DataW H} {ps : List MemPlace} {base : Nat} {ts : List TypeId} {ds : List (DataW H)} {j : Nat}
    (hsz : (DataW.weightsEach Try.prog ts ds).all (· ≤ reachBytes) = true) (htj : ts[j]? = some 40) (hdj : ds[j]? = some d)
    (hval : Value.okWide Try.prog W .any base 40 v) (h : DataW.Trod enc Try.prog W 0 (fun _ => true) true 40 v d ps) :
    ∃ (x y : Value) (t n : List Str), v = .agg #[x, y] ∧ SIn W x t ∧ SIn W y n := by
  obtain ⟨c0, c1, y0, y1, n, rfl, rfl, rfl, h0, h1⟩ := Go.Joins.open_agg2 Try.underlying40 (by kernel_rfl) cellsRl hval h
  have wts : ∀ n, (n ∈ y0.1.weights Try.prog 24 ∨ n ∈ y1.1.weights Try.prog 24) → n ≤ reachBytes := fun n hn => by
    have := List.all_eq_true.1 hsz _ (DataW.weights_mem_each htj hdj n (weights_rule hn))
    simpa using this
  obtain ⟨z1, e1⟩ := sin_cell (D := y0.1) (Pl := y0.2) h0 (fun n hn => wts n (.inl hn))
  obtain ⟨z2, e2⟩ := sin_cell (D := y1.1) (Pl := y1.2) h1 (fun n hn => wts n (.inr hn))
  exact ⟨c0, c1, z1, z2, rfl, e1, e2⟩
end Go.Proofs.Ytihiohohocfchaa
