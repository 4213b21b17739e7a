/-
  The table of math/bits out of a row's list of three tables, and a world that holds them: for the card of GraphRight. No condition.
  Arguments that are a makefile or a list of strings: what they hold. Condition: values and letters are at most 1048576 in number.
  Proved: millwrightkeep.GraphRight answers true, whatever file and names there are handed in, of at most 1048576 values and letters in all, and leaves them as they were. Conditions: that bound (the form's), and that the card ties the table of math/bits and two tables of unicode/utf8 to the pruned copy of the project.
-/
import Derived.Test.YtebjofffijnihaaGreatDoorGc28GRp
import Derived.Test.YtebjofffijnihaaGreatDoorCards
import Derived.Test.YtebjofffijnihaaGreatDoorTie
import Derived.Test.YtebjofffijnihaaGreatDoorGc23Sub
import Derived.Deep.DeepHandedRow
import Derived.Lib.LaidTab
import Derived.ShutString
import Derived.ChangeOld
import Derived.Below
import Derived.Test.YtebjofffijnihaaGreatDoorGc18FLo
import Derived.Deep.SlicePairs
import Derived.Lib.SmallJoins
namespace Go.Proofs.YtebjofffijnihaaGreatDoor
set_option maxRecDepth 100000
open Go.ChangeShapes Go.WideShapes Go.ChangeAt Go.RowKit

theorem own : ownKnob Tryz.prog.godebug = none := by kernel_rfl
theorem laidOut : laidOutB Tryz.prog = true := by kernel_rfl
theorem gTab : Tryz.prog.globalNamed "math/bits.deBruijn64tab" = some 0 := by kernel_rfl
theorem gTabType : (Tryz.prog.globals[0]?).map (·.type) = some 129 := by kernel_rfl
theorem cellsT : Tryz.prog.cellsOf 129 = 64 := by kernel_rfl
theorem cellsE : Tryz.prog.cellsOf 5 = 1 := by kernel_rfl

def tabInts : List Int := Lib.deBruijn64tab.map fun n : Nat => (n : Int)
theorem tab_datum {H : Type} : (Rows.laid_math_bits_deBruijn64tab : DataW H) = Lib.tabData .u8 tabInts := by kernel_rfl

theorem tab_of {W : World} (h : laidMetH Tryz.prog [("math/bits.deBruijn64tab", Rows.laid_math_bits_deBruijn64tab), ("unicode/utf8.acceptRanges", Rows.laid_unicode_utf8_acceptRanges), ("unicode/utf8.first", Rows.laid_unicode_utf8_first)] W) : Tab W := by
  have ht : Lib.TabIs Tryz.prog W "math/bits.deBruijn64tab" .u8 tabInts :=
    Lib.tabIs_of_head (rest := [("unicode/utf8.acceptRanges", Rows.laid_unicode_utf8_acceptRanges), ("unicode/utf8.first", Rows.laid_unicode_utf8_first)]) gTab gTabType Tryz.underlying129 Tryz.underlying5 cellsE cellsT h
  have hc : ∀ k, k < 64 → W.cell? ⟨0, k, none⟩ = some (.int .u8 ((Lib.deBruijn64tab.getD k 0 : Nat) : Int)) := fun k hk => by
    rw [ht.cell gTab k (show k < tabInts.length from hk)]
    unfold tabInts
    rw [List.getD_eq_getElem?_getD, List.getD_eq_getElem?_getD, List.getElem?_map, List.getElem?_eq_getElem (show k < Lib.deBruijn64tab.length from hk)]
    rfl
  refine ⟨Nat.pos_of_ne_zero fun e => ?_, hc⟩
  have h0 := hc 0 (by omega)
  have hn : W.heap[0]? = none := Array.getElem?_eq_none (by omega)
  simp [World.cell?, hn] at h0

def rangesZ : List Int := [128, 191, 160, 191, 128, 159, 144, 191, 128, 143, 0, 0, 0, 0, 0, 0, 0, 0, 0, 0, 0, 0, 0, 0, 0, 0, 0, 0, 0, 0, 0, 0]
def layIn (cs : Array Value) : Obj → Obj
  | .cells _ t frozen => .cells cs t frozen
  | o => o
/-- a world that holds the three tables -/
noncomputable def laidWorld (os : Os) : World :=
  { World.holding Tryz.prog os ⟨#[], #[], []⟩ with heap := (((World.holding Tryz.prog os ⟨#[], #[], []⟩).heap.modify 0 (layIn (tabInts.map (Value.int .u8)).toArray)).modify 2 (layIn (Go.Pinned.utf8FirstZ.map fun n : Nat => Value.int .u8 (n : Int)).toArray)).modify 3 (layIn (rangesZ.map (Value.int .u8)).toArray) }
end Go.Proofs.YtebjofffijnihaaGreatDoor
namespace Go.Proofs.YtebjofffijnihaaGreatDoor
set_option maxRecDepth 100000
set_option linter.unusedVariables false
open Go.ChangeShapes Go.WideShapes Go.ChangeAt Go.RowKit Go.Deep

theorem bulkD_le {H : Type} {d : DataW H} {ds : List (DataW H)} (h : d ∈ ds) : Rows.uptoBulk d ≤ Rows.uptoBulkAll ds := by
  induction ds with
  | nil => simp at h
  | cons x r ih =>
    rw [Rows.uptoBulkAll]
    rcases List.mem_cons.1 h with rfl | h
    · omega
    · have := ih h; omega
theorem bulkD_count {H : Type} (ds : List (DataW H)) : ds.length ≤ Rows.uptoBulkAll ds := by
  induction ds with
  | nil => simp
  | cons x r ih =>
    rw [Rows.uptoBulkAll, List.length_cons]
    have : 1 ≤ Rows.uptoBulk x := by
      cases x with
      | lit l => cases l <;> simp [Rows.uptoBulk]
      | _ => simp [Rows.uptoBulk]
    omega
theorem strs_bulk {H : Type} : ∀ (ss : List ByteArray), Rows.uptoBulkAll (strs (H := H) ss) = bulk (ss.map fun s => s.data.toList)
  | [] => by simp [strs, Rows.uptoBulkAll, bulk]
  | s :: r => by
    have ih := strs_bulk (H := H) r
    rw [List.map_cons, bulk_cons, ← ih]
    simp [strs, Rows.uptoBulkAll, Rows.uptoBulk]
theorem bulk_length (l : List Str) : l.length ≤ bulk l := by
  induction l with
  | nil => simp
  | cons x r ih => rw [bulk_cons, List.length_cons]; omega
set_option maxRecDepth 100000 in
theorem sin_bulk {H : Type} {enc : TypeId × Value → H} {W : World} {V : Value} {D : DataW H} {Pl : List MemPlace} {fuel : Nat}
    (h : DataW.trod enc Tryz.prog W 0 (fun _ => true) true fuel 23 [V] = some (D, Pl)) (hw : Rows.uptoBulk D ≤ 1048576) : ∃ z, SIn W V z ∧ bulk z ≤ Rows.uptoBulk D := by
  have hu := Tryz.underlying23
  rcases open_strings hu Tryz.underlying9 (by kernel_rfl) h with ⟨hcs, _⟩ | ⟨a, len, cap, ss, hcs, _, hl, hm, hss, hx, hcell, hmax⟩
  · simp at hcs
    subst hcs
    exact ⟨[], ⟨none, 0, rfl, Nat.le_refl _, by simp, fun x hx => absurd hx List.not_mem_nil, .inl rfl⟩, by simp [bulk]⟩
  · simp at hcs
    subst hcs
    simp only [if_true] at hss
    simp only [Prod.mk.injEq] at hx
    have hlen : ((ss.take len).map fun s => s.data.toList).length = len := by rw [List.length_map, List.length_take]; omega
    have hbk : bulk ((ss.take len).map fun s => s.data.toList) ≤ Rows.uptoBulk D := by
      rw [hx.1, Rows.uptoBulk, strs_bulk, strs_bulk]; omega
    have hbl := bulk_length ((ss.take len).map fun s => s.data.toList)
    refine ⟨(ss.take len).map fun s => s.data.toList, ⟨some a, cap, by rw [hlen], by omega, by omega, ?_, ?_⟩, hbk⟩
    · intro x hx'
      obtain ⟨s, hs', rfl⟩ := List.mem_map.1 hx'
      rw [size_list]
      exact hmax s (List.mem_of_mem_take hs')
    · by_cases h0 : len = 0
      · left; subst h0; simp
      · right
        obtain ⟨b, off, spot⟩ := a
        have hspot : spot = none := by simpa [Addr.add] using World.cell?_spot (hcell 0 (by omega))
        subst hspot
        have hc' : ∀ k, k < len → W.cell? ⟨b, off + k, none⟩ = some (.string (ss.getD k ByteArray.empty)) := fun k hk => by
          rw [← hcell k (by omega)]
          congr 1
          unfold Addr.add
          by_cases e : k = 0 <;> simp [e]
        refine ⟨b, off, rfl, World.block_lt_of_cell? _ _ (hc' 0 (by omega)), fun k hk => ?_⟩
        rw [hlen] at hk
        rw [hc' k hk]
        have e1 : k < (ss.take len).length := by rw [List.length_take]; omega
        have e2 : k < ss.length := by omega
        rw [List.getD, List.getD, List.getElem?_map, List.getElem?_eq_getElem e1, List.getElem?_eq_getElem e2]
        simp [bs_of]
set_option maxRecDepth 100000 in
theorem mac_bulk {H : Type} {enc : TypeId × Value → H} {W : World} {V : Value} {d : DataW H} {Pl : List MemPlace} {fuel : Nat}
    (hf : DataW.trod enc Tryz.prog W 0 (fun _ => true) true fuel 22 [V] = some (d, Pl)) (hw : Rows.uptoBulk d ≤ 1048576) : ∃ z, McIn W V z ∧ z.length ≤ Rows.uptoBulk d ∧ ∀ x ∈ z, x.1.length ≤ Rows.uptoBulk d ∧ x.2.length ≤ Rows.uptoBulk d := by
  have hu := Tryz.underlying22
  rcases open_slice_pairs hu Tryz.underlying109 (by kernel_rfl) (by kernel_rfl) (by kernel_rfl) (by kernel_rfl) (by kernel_rfl) hf with ⟨hcs, _⟩ | ⟨a, len0, cap, m, n, V0, V1, D0, D1, P0, P1, hcs, _, hl, hm, hmm, hx, hi⟩
  · simp at hcs
    subst hcs
    exact ⟨[], ⟨none, 0, rfl, Nat.le_refl _, Nat.zero_le _, Nat.zero_le _, .inl rfl⟩, Nat.zero_le _, fun x hx => absurd hx List.not_mem_nil⟩
  · simp at hcs
    subst hcs
    simp only [if_true] at hmm
    subst hmm
    simp only [Prod.mk.injEq] at hx
    have each : ∀ i, i < m → ∃ q : Mc, W.cell? (a.add (i * 2)) = some (.string (bs q.1)) ∧ W.cell? (a.add (i * 2 + 1)) = some (.string (bs q.2)) ∧ D0 i = .lit (.string q.1) ∧ D1 i = .lit (.string q.2) := by
      intro i him
      obtain ⟨h1, h2, h3, h4⟩ := hi i him
      obtain ⟨x, hx0, hx1, hx2⟩ := DataW.trod_string Tryz.underlying9 h3
      obtain ⟨s, hs0, hs1, hs2⟩ := DataW.trod_string Tryz.underlying9 h4
      simp at hx0 hs0
      simp only [Prod.mk.injEq] at hs1 hx1
      exact ⟨(x.data.toList, s.data.toList), by rw [h1, hx0, bs_of], by rw [h2, hs0, bs_of], hx1.1, hs1.1⟩
    obtain ⟨q, hq⟩ := choose_lt each
    have hzl : ((List.range len0).map q).length = len0 := by simp
    have hbd : Rows.uptoBulk d = Rows.uptoBulkAll ((List.range len0).map fun i => .agg [D0 i, D1 i]) + Rows.uptoBulkAll ((List.range (m - len0)).map fun j => .agg [D0 (len0 + j), D1 (len0 + j)]) + 1 := by rw [hx.1, Rows.uptoBulk]
    have hcount : len0 ≤ Rows.uptoBulk d := by
      have := bulkD_count ((List.range len0).map fun i => (.agg [D0 i, D1 i] : DataW H))
      rw [List.length_map, List.length_range] at this
      rw [hbd]
      omega
    refine ⟨(List.range len0).map q, ⟨some a, m, by rw [hzl], by rw [hzl]; exact hl, hm, by rw [hzl]; omega, ?_⟩, by rw [hzl]; exact hcount, ?_⟩
    · by_cases h0 : len0 = 0
      · left; subst h0; rfl
      · right
        obtain ⟨b, off, itf⟩ := a
        have ha : itf = none := by
          simpa [Addr.add] using World.cell?_spot (hq 0 (by omega)).1
        subst ha
        have addr : ∀ k, (⟨b, off, none⟩ : Addr).add k = ⟨b, off + k, none⟩ := by
          intro k
          unfold Addr.add
          by_cases e : k = 0 <;> simp [e]
        refine ⟨b, off, rfl, ?_, fun k x hk => ?_⟩
        · have := (hq 0 (by omega)).1
          rw [addr] at this
          exact World.block_lt_of_cell? _ _ this
        · have hk1 : k < len0 := by
            rcases Nat.lt_or_ge k len0 with h' | h'
            · exact h'
            · rw [List.getElem?_eq_none (by omega)] at hk; cases hk
          rw [List.getElem?_map, List.getElem?_range hk1] at hk
          simp at hk
          subst hk
          obtain ⟨e1, e2, _⟩ := hq k (by omega)
          rw [addr] at e1 e2
          exact ⟨e1, e2⟩
    · intro x hx'
      obtain ⟨i, hi', rfl⟩ := List.mem_map.1 hx'
      rw [List.mem_range] at hi'
      obtain ⟨_, _, e0, e3⟩ := hq i (by omega)
      have h1 := bulkD_le (List.mem_map_of_mem (f := fun i => (.agg [D0 i, D1 i] : DataW H)) (List.mem_range.2 hi'))
      have h2 : (q i).1.length + (q i).2.length + 1 ≤ Rows.uptoBulk (.agg [D0 i, D1 i] : DataW H) := by
        rw [Rows.uptoBulk, Rows.uptoBulkAll, Rows.uptoBulkAll, e0, e3, Rows.uptoBulk, Rows.uptoBulk]
        omega
      rw [hbd]
      exact ⟨by omega, by omega⟩
set_option maxRecDepth 100000 in
theorem inf_bulk {H : Type} {enc : TypeId × Value → H} {W : World} {V : Value} {d : DataW H} {Pl : List MemPlace} {fuel : Nat}
    (hf : DataW.trod enc Tryz.prog W 0 (fun _ => true) true fuel 24 [V] = some (d, Pl)) (hw : Rows.uptoBulk d ≤ 1048576) : ∃ z, McIn W V z ∧ z.length ≤ Rows.uptoBulk d ∧ ∀ x ∈ z, x.1.length ≤ Rows.uptoBulk d ∧ x.2.length ≤ Rows.uptoBulk d := by
  have hu := Tryz.underlying24
  rcases open_slice_pairs hu Tryz.underlying96 (by kernel_rfl) (by kernel_rfl) (by kernel_rfl) (by kernel_rfl) (by kernel_rfl) hf with ⟨hcs, _⟩ | ⟨a, len0, cap, m, n, V0, V1, D0, D1, P0, P1, hcs, _, hl, hm, hmm, hx, hi⟩
  · simp at hcs
    subst hcs
    exact ⟨[], ⟨none, 0, rfl, Nat.le_refl _, Nat.zero_le _, Nat.zero_le _, .inl rfl⟩, Nat.zero_le _, fun x hx => absurd hx List.not_mem_nil⟩
  · simp at hcs
    subst hcs
    simp only [if_true] at hmm
    subst hmm
    simp only [Prod.mk.injEq] at hx
    have each : ∀ i, i < m → ∃ q : Mc, W.cell? (a.add (i * 2)) = some (.string (bs q.1)) ∧ W.cell? (a.add (i * 2 + 1)) = some (.string (bs q.2)) ∧ D0 i = .lit (.string q.1) ∧ D1 i = .lit (.string q.2) := by
      intro i him
      obtain ⟨h1, h2, h3, h4⟩ := hi i him
      obtain ⟨x, hx0, hx1, hx2⟩ := DataW.trod_string Tryz.underlying9 h3
      obtain ⟨s, hs0, hs1, hs2⟩ := DataW.trod_string Tryz.underlying9 h4
      simp at hx0 hs0
      simp only [Prod.mk.injEq] at hs1 hx1
      exact ⟨(x.data.toList, s.data.toList), by rw [h1, hx0, bs_of], by rw [h2, hs0, bs_of], hx1.1, hs1.1⟩
    obtain ⟨q, hq⟩ := choose_lt each
    have hzl : ((List.range len0).map q).length = len0 := by simp
    have hbd : Rows.uptoBulk d = Rows.uptoBulkAll ((List.range len0).map fun i => .agg [D0 i, D1 i]) + Rows.uptoBulkAll ((List.range (m - len0)).map fun j => .agg [D0 (len0 + j), D1 (len0 + j)]) + 1 := by rw [hx.1, Rows.uptoBulk]
    have hcount : len0 ≤ Rows.uptoBulk d := by
      have := bulkD_count ((List.range len0).map fun i => (.agg [D0 i, D1 i] : DataW H))
      rw [List.length_map, List.length_range] at this
      rw [hbd]
      omega
    refine ⟨(List.range len0).map q, ⟨some a, m, by rw [hzl], by rw [hzl]; exact hl, hm, by rw [hzl]; omega, ?_⟩, by rw [hzl]; exact hcount, ?_⟩
    · by_cases h0 : len0 = 0
      · left; subst h0; rfl
      · right
        obtain ⟨b, off, itf⟩ := a
        have ha : itf = none := by
          simpa [Addr.add] using World.cell?_spot (hq 0 (by omega)).1
        subst ha
        have addr : ∀ k, (⟨b, off, none⟩ : Addr).add k = ⟨b, off + k, none⟩ := by
          intro k
          unfold Addr.add
          by_cases e : k = 0 <;> simp [e]
        refine ⟨b, off, rfl, ?_, fun k x hk => ?_⟩
        · have := (hq 0 (by omega)).1
          rw [addr] at this
          exact World.block_lt_of_cell? _ _ this
        · have hk1 : k < len0 := by
            rcases Nat.lt_or_ge k len0 with h' | h'
            · exact h'
            · rw [List.getElem?_eq_none (by omega)] at hk; cases hk
          rw [List.getElem?_map, List.getElem?_range hk1] at hk
          simp at hk
          subst hk
          obtain ⟨e1, e2, _⟩ := hq k (by omega)
          rw [addr] at e1 e2
          exact ⟨e1, e2⟩
    · intro x hx'
      obtain ⟨i, hi', rfl⟩ := List.mem_map.1 hx'
      rw [List.mem_range] at hi'
      obtain ⟨_, _, e0, e3⟩ := hq i (by omega)
      have h1 := bulkD_le (List.mem_map_of_mem (f := fun i => (.agg [D0 i, D1 i] : DataW H)) (List.mem_range.2 hi'))
      have h2 : (q i).1.length + (q i).2.length + 1 ≤ Rows.uptoBulk (.agg [D0 i, D1 i] : DataW H) := by
        rw [Rows.uptoBulk, Rows.uptoBulkAll, Rows.uptoBulkAll, e0, e3, Rows.uptoBulk, Rows.uptoBulk]
        omega
      rw [hbd]
      exact ⟨by omega, by omega⟩
set_option maxRecDepth 100000 in
theorem rin_bulk {H : Type} {enc : TypeId × Value → H} {W : World} {V : Value} {d : DataW H} {Pl : List MemPlace} {fuel : Nat}
    (hf : DataW.trod enc Tryz.prog W 0 (fun _ => true) true fuel 25 [V] = some (d, Pl)) (hw : Rows.uptoBulk d ≤ 1048576) : ∃ z, RIn W V z ∧ z.length ≤ Rows.uptoBulk d ∧ ∀ x ∈ z, bulk x.1 ≤ Rows.uptoBulk d ∧ bulk x.2 ≤ Rows.uptoBulk d := by
  have hu := Tryz.underlying25
  rcases open_slice_pairs hu Tryz.underlying40 (by kernel_rfl) (by kernel_rfl) (by kernel_rfl) (by kernel_rfl) (by kernel_rfl) hf with ⟨hcs, _⟩ | ⟨a, len0, cap, m, n, V0, V1, D0, D1, P0, P1, hcs, _, hl, hm, hmm, hx, hi⟩
  · simp at hcs
    subst hcs
    exact ⟨[], ⟨none, 0, rfl, Nat.le_refl _, Nat.zero_le _, Nat.zero_le _, .inl rfl⟩, Nat.zero_le _, fun x hx => absurd hx List.not_mem_nil⟩
  · simp at hcs
    subst hcs
    simp only [if_true] at hmm
    subst hmm
    simp only [Prod.mk.injEq] at hx
    have hbd : Rows.uptoBulk d = Rows.uptoBulkAll ((List.range len0).map fun i => .agg [D0 i, D1 i]) + Rows.uptoBulkAll ((List.range (m - len0)).map fun j => .agg [D0 (len0 + j), D1 (len0 + j)]) + 1 := by rw [hx.1, Rows.uptoBulk]
    have hcount : len0 ≤ Rows.uptoBulk d := by
      have := bulkD_count ((List.range len0).map fun i => (.agg [D0 i, D1 i] : DataW H))
      rw [List.length_map, List.length_range] at this
      rw [hbd]
      omega
    have hpart : ∀ i, i < len0 → Rows.uptoBulk (D0 i) ≤ Rows.uptoBulk d ∧ Rows.uptoBulk (D1 i) ≤ Rows.uptoBulk d := fun i hi' => by
      have h1 := bulkD_le (List.mem_map_of_mem (f := fun i => (.agg [D0 i, D1 i] : DataW H)) (List.mem_range.2 hi'))
      rw [Rows.uptoBulk, Rows.uptoBulkAll, Rows.uptoBulkAll] at h1
      rw [hbd]
      constructor <;> omega
    have each : ∀ i, i < len0 → ∃ q : Rl, SIn W (V0 i) q.1 ∧ SIn W (V1 i) q.2 ∧ bulk q.1 ≤ Rows.uptoBulk d ∧ bulk q.2 ≤ Rows.uptoBulk d := by
      intro i him
      obtain ⟨h1, h2, h3, h4⟩ := hi i (by omega)
      obtain ⟨g1, g2⟩ := hpart i him
      obtain ⟨z1, e1, f1⟩ := sin_bulk h3 (by omega)
      obtain ⟨z2, e2, f2⟩ := sin_bulk h4 (by omega)
      exact ⟨(z1, z2), e1, e2, by show bulk z1 ≤ _; omega, by show bulk z2 ≤ _; omega⟩
    obtain ⟨q, hq⟩ := choose_lt each
    have hzl : ((List.range len0).map q).length = len0 := by simp
    refine ⟨(List.range len0).map q, ⟨some a, m, by rw [hzl], by rw [hzl]; exact hl, hm, by rw [hzl]; omega, ?_⟩, by rw [hzl]; exact hcount, ?_⟩
    · by_cases h0 : len0 = 0
      · left; subst h0; rfl
      · right
        obtain ⟨b, off, itf⟩ := a
        have ha : itf = none := by simpa [Addr.add] using World.cell?_spot (hi 0 (by omega)).1
        subst ha
        have addr : ∀ k, (⟨b, off, none⟩ : Addr).add k = ⟨b, off + k, none⟩ := by
          intro k
          unfold Addr.add
          by_cases e : k = 0 <;> simp [e]
        refine ⟨b, off, rfl, ?_, V0, V1, fun k hk => ?_⟩
        · have := (hi 0 (by omega)).1
          rw [addr] at this
          exact World.block_lt_of_cell? _ _ this
        · rw [hzl] at hk
          obtain ⟨e1, e2, _⟩ := hi k (by omega)
          rw [addr] at e1 e2
          have ht : tg ((List.range len0).map q) k = (q k).1 ∧ nd ((List.range len0).map q) k = (q k).2 := by
            unfold tg nd
            rw [List.getD, List.getElem?_map, List.getElem?_range hk]
            exact ⟨rfl, rfl⟩
          rw [ht.1, ht.2]
          exact ⟨e1, e2, (hq k hk).1, (hq k hk).2.1⟩
    · intro x hx'
      obtain ⟨i, hi', rfl⟩ := List.mem_map.1 hx'
      rw [List.mem_range] at hi'
      exact (hq i hi').2.2
theorem cellsFi : (Tryz.prog).cellsOf 27 = 4 := by kernel_rfl
set_option maxRecDepth 100000 in
theorem open_file {H : Type} {enc : TypeId × Value → H} {W : World} {v : Value} {d : DataW H} {ps : List MemPlace} {base : Nat}
    (hval : Value.okWide Tryz.prog W .any base 27 v) (h : DataW.Trod enc Tryz.prog W 0 (fun _ => true) true 27 v d ps) (hb : Rows.uptoBulk d ≤ 1048576) :
    ∃ (vm vp vi vr : Value) (F : Fil), v = .agg #[vm, vp, vi, vr] ∧ FIn W vm vp vi vr F ∧ FB F := by
  obtain ⟨c0, c1, c2, c3, y0, y1, y2, y3, n, rfl, rfl, rfl, h0, h1, h2, h3⟩ := Go.Joins.open_agg4 Tryz.underlying27 (by kernel_rfl) cellsFi hval h
  rw [Rows.uptoBulk, Rows.uptoBulkAll, Rows.uptoBulkAll, Rows.uptoBulkAll, Rows.uptoBulkAll, Rows.uptoBulkAll] at hb
  obtain ⟨z0, e0, l0, f0⟩ := mac_bulk (d := y0.1) (Pl := y0.2) h0 (by omega)
  obtain ⟨z1, e1, f1⟩ := sin_bulk (D := y1.1) (Pl := y1.2) h1 (by omega)
  obtain ⟨z2, e2, l2, f2⟩ := inf_bulk (d := y2.1) (Pl := y2.2) h2 (by omega)
  obtain ⟨z3, e3, l3, f3⟩ := rin_bulk (d := y3.1) (Pl := y3.2) h3 (by omega)
  refine ⟨c0, c1, c2, c3, (z0, z1, z2, z3), rfl, ⟨e0, e1, e2, e3⟩, fun m hm => ?_, ?_, fun m hm => ?_, fun r hr => ?_, ?_⟩
  · have := f0 m hm; omega
  · show bulk z1 ≤ _; omega
  · have := f2 m hm; omega
  · have := f3 r hr; omega
  · refine ⟨?_, ?_, ?_⟩
    · show z0.length ≤ _; omega
    · show z2.length ≤ _; omega
    · show z3.length ≤ _; omega
set_option maxRecDepth 100000 in
theorem open_list {H : Type} {enc : TypeId × Value → H} {W : World} {v : Value} {d : DataW H} {ps : List MemPlace} {base : Nat}
    (hval : Value.okWide Tryz.prog W .any base 23 v) (h : DataW.Trod enc Tryz.prog W 0 (fun _ => true) true 23 v d ps) (hb : Rows.uptoBulk d ≤ 1048576) :
    ∃ z, SIn W v z ∧ bulk z ≤ 1048576 := by
  obtain ⟨a0, len0, cap0, rfl⟩ := okWide_slice Tryz.underlying23 hval
  obtain ⟨fuel, hf⟩ := h
  obtain ⟨z, h1, h2⟩ := sin_bulk (by simpa [Value.cells] using hf) hb
  exact ⟨z, h1, by omega⟩
end Go.Proofs.YtebjofffijnihaaGreatDoor
namespace Go.Proofs.YtebjofffijnihaaGreatDoor.graphRight
open Go.ChangeShapes Go.WideShapes Go.ChangeAt Go.RowKit
open Go.ChangeMaps (open_string shut_string)
set_option linter.unusedVariables false

set_option maxRecDepth 100000 in
theorem contract (H : Type) (enc : TypeId × Value → H) (W : World) (base : Nat) (args : Array Value) (ds gs : List (DataW H)) (before : List MemPlace)
    (hval : ∀ (j : Nat) t v, Tryz.f3.params[j]? = some t → args[j]? = some v → Value.okWide Tryz.prog W .any base t v)
    (hW : DataW.Whole enc Tryz.prog Tryz.f3.params.toList Rows.graphRightSpec.vars false W args.toList ds gs before) (hk : Rows.uptoSmall H (ds ++ gs) = true)
    (hsz : (DataW.weightsEach Tryz.prog (Tryz.f3.params.toList ++ Rows.graphRightSpec.plain.varTypes Tryz.prog) (ds ++ gs)).all (· ≤ reachBytes) = true) (hL : laidMetH Tryz.prog Rows.graphRightUptoRow.laid W) :
    Calls Tryz.prog 3 args W fun e W' => ∃ v, e = .returned v ∧ Rows.graphRightSpec.post enc Tryz.prog Tryz.f3 false true false false W args v W' := by
  have ht : Tab W := tab_of hL
  have hW' := hW
  obtain ⟨p, q, hA0, hV, rfl, hfz, hnd⟩ := hW
  have hA : DataW.TrodAll enc Tryz.prog W 0 (fun _ => true) true Tryz.f3.params.toList args.toList ds p := hA0
  rw [Tryz.params3] at hA hval hsz
  obtain ⟨v0, vs0, d0, ds0, p0, q0, hargs, rfl, rfl, h0, r0⟩ := trodAll_cons hA
  obtain ⟨v1, vs1, d1, ds1, p1, q1, rfl, rfl, rfl, h1, r1⟩ := trodAll_cons r0
  obtain ⟨rfl, rfl, rfl⟩ := trodAll_nil r1
  obtain rfl : args = #[v0, v1] := Array.ext' hargs
  obtain ⟨rfl, rfl⟩ := trodVars_none hV
  have hb0 := of_decide_eq_true hk
  simp only [List.append_nil, Rows.uptoBulkAll] at hb0
  have k0 := h0
  have lt0 : ∀ x ∈ p0, x.block < W.heap.size := by obtain ⟨m, hm⟩ := k0; exact DataW.trod_lt m _ _ _ hm
  obtain ⟨vm0, vp0, vi0, vr0, F0, rfl, w0, f0⟩ := open_file (hval 0 27 v0 rfl rfl) h0 (by omega)
  have k1 := h1
  have lt1 : ∀ x ∈ p1, x.block < W.heap.size := by obtain ⟨m, hm⟩ := k1; exact DataW.trod_lt m _ _ _ hm
  obtain ⟨z1, w1, b1⟩ := open_list (hval 1 23 v1 rfl rfl) h1 (by omega)
  have hb := of_decide_eq_true hk
  simp only [List.append_nil, Rows.uptoBulkAll] at hb
  clear hA0
  refine (graphRight_any w0 f0 (iin_of w0.inf f0.inf) w1 (by have := bulk_len z1; omega) (by have := bulk_len F0.2.1; have := f0.pho; omega) ht).mono fun e W' ⟨he, bel⟩ => ?_
  subst he
  exact ⟨_, rfl, _, _, _, [], _, [], hW', trodAll_mk1 (shut_bool Tryz.underlying4 _), (trodAll_cons_mk (Below.trod laidOut (by kernel_rfl) (of_decide_eq_true (by kernel_rfl)) k0 bel lt0) (trodAll_cons_mk (Below.trod laidOut (by kernel_rfl) (of_decide_eq_true (by kernel_rfl)) k1 bel lt1) trodAll_mk0)), rfl, bel.frame _, fun h => by cases h⟩

theorem laid_met (os : Os) : laidMet Tryz.prog Rows.graphRightUptoRow.laid ((laidWorld os).forCall (fun _ _ => 0) ⟨#[], #[.agg #[.slice none 0 0, .slice none 0 0, .slice none 0 0, .slice none 0 0], .slice none 0 0], []⟩).memory :=
  laidMet_of_run' 8 (by kernel_rfl) (by kernel_rfl)
theorem reads (os : Os) {H : Type} (enc : TypeId × Value → H) : ∃ places, DataW.whole enc Tryz.prog ((laidWorld os).forCall (fun _ _ => 0) ⟨#[], #[.agg #[.slice none 0 0, .slice none 0 0, .slice none 0 0, .slice none 0 0], .slice none 0 0], []⟩).memory Tryz.f3.params.toList Rows.graphRightSpec.vars false (#[.agg #[.slice none 0 0, .slice none 0 0, .slice none 0 0, .slice none 0 0], .slice none 0 0] : Array Value).toList 8 = some ([.agg [.nil, .nil, .nil, .nil], .nil], [], places) :=
  ⟨[], by kernel_rfl⟩

set_option maxRecDepth 100000 in
theorem lifted (os : Os) (started : os.Started) (H : Type) (enc : TypeId × Value → H) (F : Stop.Interp) :
    ReturnsInHanded {} Tryz.checked os 3 .any ((Rows.OpenSpec.upto Rows.graphRightSpec).preRow enc Tryz.prog Tryz.f3 Rows.graphRightUptoRow.domain false Rows.graphRightUptoRow.laid) (((Rows.OpenSpec.upto Rows.graphRightSpec).at F).post enc Tryz.prog Tryz.f3 false true false false) := by
  obtain ⟨places, hx⟩ := reads os enc
  refine returnsInHanded_of_row (C := Tryz.checked) (s := (Rows.OpenSpec.upto Rows.graphRightSpec)) own started (by kernel_rfl) Tryz.func3
    (witness_row_at (enc := enc) (C := Tryz.checked) false (laidWorld os) #[.agg #[.slice none 0 0, .slice none 0 0, .slice none 0 0, .slice none 0 0], .slice none 0 0] rfl (by kernel_rfl) (by kernel_rfl) (by kernel_rfl)
      (OpenSpec.preRow_of_cond 8 hx (by kernel_rfl) (fun k hk => by cases hk; kernel_rfl) (by kernel_rfl) (laid_met os))) ?_
  intro W base args ds gs before hval hW _ hcond hsz hL _ _
  exact contract H enc W base args ds gs before hval hW (hcond _ rfl) hsz hL

theorem said : Rows.GraphRightUptoSaid :=
  OpenClaim.holds_of_cond 3 Tryz.f3 rfl rfl rfl rfl rfl rfl rfl ⟨rfl, rfl, rfl, rfl, rfl⟩ rfl rfl rfl rfl rfl (by kernel_rfl) Tryz.func3 (by kernel_rfl)
    (of_decide_eq_true (by kernel_rfl)) (by unfold Func.isWrapper; first | (rw [if_pos (by decide +kernel)]; kernel_rfl) | (rw [if_neg (by decide +kernel)]; exact ⟨rfl, rfl⟩))
    (fun os started H enc _ F => by rw [OpenClaim.pre_eq_preRow]; exact lifted os started H enc F)

theorem plain (f : FuncId) (fn : Func) (hf : Tryz.pinned.checked.prog.funcNamed Rows.graphRightUptoRow.func = some f) (hfn : Tryz.pinned.checked.prog.funcs[f]? = some fn) :
    false = Tryz.pinned.checked.prog.looks [] ∧ ∀ (j : Nat) t, fn.params[j]? = some t → Tryz.pinned.checked.prog.wantsStandIn t = false := by
  obtain rfl : f = 3 := Option.some.inj ((show Tryz.prog.funcNamed Rows.graphRightUptoRow.func = some 3 by kernel_rfl).symm.trans hf) |>.symm
  obtain rfl : fn = Tryz.f3 := (Option.some.inj (Tryz.func3.symm.trans hfn)).symm
  refine ⟨by kernel_rfl, fun j t ht => ?_⟩
  rw [Tryz.params3] at ht
  have hm := Array.mem_of_getElem? ht
  simp at hm
  rcases hm with rfl | rfl
  · exact (show Tryz.prog.wantsStandIn 27 = false by kernel_rfl)
  · exact (show Tryz.prog.wantsStandIn 23 = false by kernel_rfl)
theorem card : Rows.GraphRightUptoCardSaid :=
  Claim7.holds_tied_plain_at .later [] _ _ _ _ said (fun _ h => by cases h) (by kernel_rfl) (fun _ h => by cases h) graphRightUpto_row_tie rfl ⟨rfl, rfl⟩ (by kernel_rfl) rfl plain (by kernel_rfl)
end Go.Proofs.YtebjofffijnihaaGreatDoor.graphRight
