/-
  The sets tied to each number, sorted by their least numbers, each once: these are the parts. No condition.
-/
import Derived.Test.YtjmomgmbmgdeoaaDoorHKp
import Derived.Lib.SlicesCompact
import Derived.Sort.Statements
namespace Go.Proofs.YtjmomgmbmgdeoaaDoor
set_option maxRecDepth 100000
set_option linter.unusedVariables false

def UpH (l : List Bv) : Prop := l.Pairwise fun a b => headW a < headW b
theorem upH_ext : ∀ {a b : List Bv}, UpH a → UpH b → (∀ x, x ∈ a ↔ x ∈ b) → a = b
  | [], [], _, _, _ => rfl
  | [], y :: _, _, _, h => absurd ((h y).2 (List.mem_cons_self ..)) List.not_mem_nil
  | x :: _, [], _, _, h => absurd ((h x).1 (List.mem_cons_self ..)) List.not_mem_nil
  | x :: a, y :: b, ha, hb, h => by
    obtain ⟨ha1, ha2⟩ := List.pairwise_cons.1 ha
    obtain ⟨hb1, hb2⟩ := List.pairwise_cons.1 hb
    have hxy : x = y := by
      rcases List.mem_cons.1 ((h x).1 (List.mem_cons_self ..)) with e | e
      · exact e
      · rcases List.mem_cons.1 ((h y).2 (List.mem_cons_self ..)) with e' | e'
        · exact e'.symm
        · have := hb1 x e; have := ha1 y e'; omega
    subst hxy
    congr 1
    refine upH_ext ha2 hb2 fun z => ⟨fun hz => ?_, fun hz => ?_⟩
    · rcases List.mem_cons.1 ((h z).1 (List.mem_cons_of_mem _ hz)) with e | e
      · subst e; have := ha1 z hz; omega
      · exact e
    · rcases List.mem_cons.1 ((h z).2 (List.mem_cons_of_mem _ hz)) with e | e
      · subst e; have := hb1 z hz; omega
      · exact e
theorem compactH_spec (d : Array Bv) (hs : ∀ i j, i ≤ j → j < d.size → headW d[i]! ≤ headW d[j]!) (hi : ∀ i j, i < d.size → j < d.size → headW d[i]! = headW d[j]! → d[i]! = d[j]!) : ∀ m, m ≤ d.size →
    UpH (Lib.compactUpTo d m) ∧ ∀ x, x ∈ Lib.compactUpTo d m ↔ ∃ j, j < m ∧ d[j]! = x
  | 0, _ => ⟨List.Pairwise.nil, fun x => ⟨fun h => by simp [Lib.compactUpTo] at h, fun ⟨j, hj, _⟩ => absurd hj (Nat.not_lt_zero _)⟩⟩
  | m + 1, h => by
    obtain ⟨i1, i2⟩ := compactH_spec d hs hi m (by omega)
    rw [Lib.compactUpTo_succ]
    by_cases hk : Lib.keeps d m = true
    · rw [if_pos hk]
      refine ⟨List.pairwise_append.2 ⟨i1, List.pairwise_singleton _ _, fun a ha b hb => ?_⟩, fun x => ?_⟩
      · rw [List.mem_singleton] at hb
        subst hb
        obtain ⟨j, hj, rfl⟩ := (i2 a).1 ha
        have hm : m ≠ 0 := by omega
        have hne : d[m]! ≠ d[m - 1]! := by
          have := of_decide_eq_true hk
          rcases this with h | h
          · exact absurd h hm
          · exact h
        have a1 := hs j (m - 1) (by omega) (by omega)
        have a2 := hs (m - 1) m (by omega) (by omega)
        have a3 : headW d[m - 1]! ≠ headW d[m]! := fun e => hne (hi m (m - 1) (by omega) (by omega) e.symm)
        omega
      · rw [List.mem_append, List.mem_singleton, i2]
        constructor
        · rintro (⟨j, hj, rfl⟩ | rfl)
          · exact ⟨j, by omega, rfl⟩
          · exact ⟨m, by omega, rfl⟩
        · rintro ⟨j, hj, rfl⟩
          rcases Nat.lt_succ_iff_lt_or_eq.1 hj with h' | rfl
          · exact .inl ⟨j, h', rfl⟩
          · exact .inr rfl
    · rw [if_neg hk, List.append_nil]
      refine ⟨i1, fun x => ?_⟩
      rw [i2]
      constructor
      · rintro ⟨j, hj, rfl⟩; exact ⟨j, by omega, rfl⟩
      · rintro ⟨j, hj, rfl⟩
        rcases Nat.lt_succ_iff_lt_or_eq.1 hj with h' | rfl
        · exact ⟨j, h', rfl⟩
        · have hk' := of_decide_eq_false (Bool.not_eq_true _ ▸ hk)
          have h0 : j ≠ 0 := fun e => hk' (.inl e)
          have h1 : d[j]! = d[j - 1]! := Decidable.byContradiction fun e => hk' (.inr e)
          exact ⟨j - 1, by omega, h1.symm⟩

/-- the set tied to each number -/
def tiesR (r : List Bv) : List Bv := (List.range r.length).map (tied r)
theorem tiesR_length (r : List Bv) : (tiesR r).length = r.length := by unfold tiesR; rw [List.length_map, List.length_range]
theorem tiesR_at {r : List Bv} {i : Nat} (h : i < r.length) : wAt (tiesR r) i = tied r i := by
  unfold tiesR wAt
  rw [List.getD, List.getElem?_map, List.getElem?_range h]; rfl
theorem ties_mem {r : List Bv} {x : Bv} : x ∈ tiesR r ↔ ∃ n, n < r.length ∧ tied r n = x := by
  unfold tiesR
  rw [List.mem_map]
  constructor
  · rintro ⟨n, h1, h2⟩; exact ⟨n, List.mem_range.1 h1, h2⟩
  · rintro ⟨n, h1, h2⟩; exact ⟨n, List.mem_range.2 h1, h2⟩
theorem head_tied {r : List Bv} (hr : RowsIn r) {n : Nat} (hn : n < r.length) (h : headR r n = true) : headW (tied r n) = n := by
  have h64 := hr.len
  refine headW_least ⟨by omega, tied_self hr hn, fun k hk => ?_⟩
  cases hb : (tied r n).getLsbD k
  · rfl
  · exact absurd ((tied_bit hr hn).1 hb) ((headR_iff hr hn).1 h k hk)
theorem tied_nz {r : List Bv} (hr : RowsIn r) {n : Nat} (hn : n < r.length) : tied r n ≠ 0#64 := nonzero_iff.2 ⟨n, tied_self hr hn⟩
theorem ties_inj {r : List Bv} (hr : RowsIn r) {x y : Bv} (hx : x ∈ tiesR r) (hy : y ∈ tiesR r) (h : headW x = headW y) : x = y := by
  obtain ⟨a, a1, rfl⟩ := ties_mem.1 hx
  obtain ⟨b, b1, rfl⟩ := ties_mem.1 hy
  have q1 := (headW_bit (tied_nz hr a1)).2.1
  have q2 := (headW_bit (tied_nz hr b1)).2.1
  rw [← h] at q2
  exact tied_both hr a1 b1 q1 q2
theorem parts_mem {r : List Bv} (hr : RowsIn r) {x : Bv} : x ∈ partsR r ↔ x ∈ tiesR r := by
  rw [ties_mem]
  unfold partsR partsTo
  rw [List.mem_map]
  constructor
  · rintro ⟨n, h1, h2⟩; exact ⟨n, (headsTo_mem.1 h1).1, h2⟩
  · rintro ⟨n, h1, rfl⟩
    obtain ⟨m, m1, m2, m3⟩ := head_of hr h1
    exact ⟨m, headsTo_mem.2 ⟨by omega, m2⟩, tied_eq hr (by omega) h1 m3⟩
theorem parts_up {r : List Bv} (hr : RowsIn r) : UpH (partsR r) := by
  unfold UpH partsR partsTo
  rw [List.pairwise_map]
  refine List.Pairwise.imp_of_mem ?_ (headsTo_up r r.length)
  intro a b ha hb h
  obtain ⟨a1, a2⟩ := headsTo_mem.1 ha
  obtain ⟨b1, b2⟩ := headsTo_mem.1 hb
  rw [head_tied hr a1 a2, head_tied hr b1 b2]
  exact h
theorem sort_parts {r : List Bv} (hr : RowsIn r) {d : Array Bv} (hp : Go.Sort.PermIn 0 r.length (tiesR r).toArray d) (hs : Go.Sort.SortedIn (fun x y => decide (headW x < headW y)) 0 r.length d) : Lib.compactUpTo d d.size = partsR r := by
  obtain ⟨p1, _, p3⟩ := hp
  have hl : (tiesR r).toArray.size = r.length := by simp [tiesR_length]
  rw [hl] at p1
  have e1 : d.extract 0 r.length = d := by rw [← p1]; exact Array.extract_size
  have e2 : (tiesR r).toArray.extract 0 r.length = (tiesR r).toArray := by rw [← hl]; exact Array.extract_size
  rw [e1, e2] at p3
  have hm : ∀ x, x ∈ d.toList ↔ x ∈ tiesR r := fun x => p3.mem_iff
  have hg : ∀ i, i < d.size → d[i]! ∈ tiesR r := fun i hi => (hm _).1 (by rw [getElem!_pos d i hi]; exact Array.getElem_mem_toList hi)
  obtain ⟨c1, c2⟩ := compactH_spec d (fun i j hij hj => by
    by_cases e : i = j
    · subst e; exact Nat.le_refl _
    · have := hs i j (Nat.zero_le _) (by omega) (by omega)
      have := of_decide_eq_false this
      omega) (fun i j hi hj h => ties_inj hr (hg i hi) (hg j hj) h) d.size (Nat.le_refl _)
  refine upH_ext c1 (parts_up hr) fun x => ?_
  rw [c2, parts_mem hr, ← hm]
  constructor
  · rintro ⟨j, hj, rfl⟩; exact (hm _).2 (hg j hj)
  · intro hx
    obtain ⟨j, hj, e⟩ := List.getElem_of_mem hx
    refine ⟨j, by simpa using hj, ?_⟩
    rw [getElem!_pos d j (by simpa using hj), ← e]
    simp
end Go.Proofs.YtjmomgmbmgdeoaaDoor
