/-
  Plain facts on lists of strings: sorted, each once; nothing of the program. No condition.
-/
import Derived.Test.YtjmomgmbmgdeoaaDoorList
import Derived.Lib.SlicesCompact
import Derived.Sort.EncStr
namespace Go.Proofs.YtjmomgmbmgdeoaaDoor
set_option maxRecDepth 100000

abbrev Str := List UInt8
/-- each less than the next -/
def Up (l : List Str) : Prop := l.Pairwise (· < ·)
theorem le_of_lt' {a b : Str} (h : a < b) : a ≤ b := by
  rcases List.le_total a b with k | k
  · exact k
  · exact absurd h (List.not_lt.2 k)
theorem lt_of_le_ne {a b : Str} (h : a ≤ b) (hn : a ≠ b) : a < b := by
  rcases Decidable.em (b ≤ a) with k | k
  · exact absurd (List.le_antisymm h k) hn
  · exact List.not_le.1 k
theorem lt_of_le_lt {a b c : Str} (h : a ≤ b) (k : b < c) : a < c := by
  rcases Decidable.em (c ≤ a) with q | q
  · exact absurd k (List.not_lt.2 (List.le_trans q h))
  · exact List.not_le.1 q
theorem lt_of_lt_le {a b c : Str} (h : a < b) (k : b ≤ c) : a < c := by
  rcases Decidable.em (c ≤ a) with q | q
  · exact absurd h (List.not_lt.2 (List.le_trans k q))
  · exact List.not_le.1 q

def sortS (z : List Str) : List Str := z.mergeSort fun x y => decide (x ≤ y)
theorem sortS_perm (z : List Str) : (sortS z).Perm z := List.mergeSort_perm _ _
theorem sortS_asc (z : List Str) : (sortS z).Pairwise (· ≤ ·) := by
  have := List.pairwise_mergeSort (le := fun x y : Str => decide (x ≤ y)) (fun a b c h1 h2 => decide_eq_true (List.le_trans (of_decide_eq_true h1) (of_decide_eq_true h2))) (fun a b => by
    rcases List.le_total a b with k | k
    · rw [decide_eq_true k]; rfl
    · rw [decide_eq_true k, Bool.or_true]) z
  exact this.imp fun h => of_decide_eq_true h

theorem compact_spec (d : Array Str) (hs : ∀ i j, i ≤ j → j < d.size → d[i]! ≤ d[j]!) : ∀ m, m ≤ d.size →
    Up (Lib.compactUpTo d m) ∧ ∀ x, x ∈ Lib.compactUpTo d m ↔ ∃ j, j < m ∧ d[j]! = x
  | 0, _ => ⟨List.Pairwise.nil, fun x => ⟨fun h => by simp [Lib.compactUpTo] at h, fun ⟨j, hj, _⟩ => absurd hj (Nat.not_lt_zero _)⟩⟩
  | m + 1, h => by
    obtain ⟨i1, i2⟩ := compact_spec d hs m (by omega)
    rw [Lib.compactUpTo_succ]
    by_cases hk : Lib.keeps d m = true
    · rw [if_pos hk]
      refine ⟨List.pairwise_append.2 ⟨i1, List.pairwise_singleton _ _, fun a ha b hb => ?_⟩, fun x => ?_⟩
      · rw [List.mem_singleton] at hb
        subst hb
        obtain ⟨j, hj, rfl⟩ := (i2 a).1 ha
        have hm : m ≠ 0 := by omega
        have hne : d[m]! ≠ d[m - 1]! := by
          have := of_decide_eq_true hk
          rcases this with h | h
          · exact absurd h hm
          · exact h
        exact lt_of_le_lt (hs j (m - 1) (by omega) (by omega)) (lt_of_le_ne (hs (m - 1) m (by omega) (by omega)) (Ne.symm hne))
      · rw [List.mem_append, List.mem_singleton, i2]
        constructor
        · rintro (⟨j, hj, rfl⟩ | rfl)
          · exact ⟨j, by omega, rfl⟩
          · exact ⟨m, by omega, rfl⟩
        · rintro ⟨j, hj, rfl⟩
          rcases Nat.lt_succ_iff_lt_or_eq.1 hj with h' | rfl
          · exact .inl ⟨j, h', rfl⟩
          · exact .inr rfl
    · rw [if_neg hk, List.append_nil]
      refine ⟨i1, fun x => ?_⟩
      rw [i2]
      constructor
      · rintro ⟨j, hj, rfl⟩; exact ⟨j, by omega, rfl⟩
      · rintro ⟨j, hj, rfl⟩
        rcases Nat.lt_succ_iff_lt_or_eq.1 hj with h' | rfl
        · exact ⟨j, h', rfl⟩
        · have hk' := of_decide_eq_false (Bool.not_eq_true _ ▸ hk)
          have h0 : j ≠ 0 := fun e => hk' (.inl e)
          have h1 : d[j]! = d[j - 1]! := Decidable.byContradiction fun e => hk' (.inr e)
          exact ⟨j - 1, by omega, h1.symm⟩

/-- sorted, each once -/
def uniq (z : List Str) : List Str := Lib.compact (sortS z)
theorem uniq_spec (z : List Str) : Up (uniq z) ∧ ∀ x, x ∈ uniq z ↔ x ∈ z := by
  have hs : ∀ i j, i ≤ j → j < (sortS z).toArray.size → (sortS z).toArray[i]! ≤ (sortS z).toArray[j]! := fun i j hij hj => by
    have hj' : j < (sortS z).length := by simpa using hj
    rw [getElem!_pos _ i (by simp; omega), getElem!_pos _ j hj]
    simp only [List.getElem_toArray]
    by_cases e : i = j
    · subst e; exact List.le_refl _
    · exact List.pairwise_iff_getElem.1 (sortS_asc z) i j (by omega) hj' (by omega)
  obtain ⟨h1, h2⟩ := compact_spec (sortS z).toArray hs (sortS z).length (by simp)
  refine ⟨h1, fun x => (h2 x).trans ?_⟩
  rw [← (sortS_perm z).mem_iff, List.mem_iff_getElem]
  constructor
  · rintro ⟨j, hj, rfl⟩
    exact ⟨j, hj, by rw [getElem!_pos _ j (by simpa using hj)]; simp⟩
  · rintro ⟨j, hj, rfl⟩
    exact ⟨j, hj, by rw [getElem!_pos _ j (by simpa using hj)]; simp⟩
theorem uniq_up (z : List Str) : Up (uniq z) := (uniq_spec z).1
theorem uniq_mem {z : List Str} {x : Str} : x ∈ uniq z ↔ x ∈ z := (uniq_spec z).2 x
theorem compact_le (z : List Str) : (Lib.compact z).length ≤ z.length := by
  unfold Lib.compact Lib.compactUpTo
  rw [List.length_map]
  exact Nat.le_trans (List.length_filter_le _ _) (by rw [List.length_range]; exact Nat.le_refl _)
theorem uniq_le (z : List Str) : (uniq z).length ≤ z.length := by
  have := compact_le (sortS z)
  rw [(sortS_perm z).length_eq] at this
  exact this

theorem up_ext : ∀ {a b : List Str}, Up a → Up b → (∀ x, x ∈ a ↔ x ∈ b) → a = b
  | [], [], _, _, _ => rfl
  | [], y :: _, _, _, h => absurd ((h y).2 (List.mem_cons_self ..)) List.not_mem_nil
  | x :: _, [], _, _, h => absurd ((h x).1 (List.mem_cons_self ..)) List.not_mem_nil
  | x :: a, y :: b, ha, hb, h => by
    obtain ⟨ha1, ha2⟩ := List.pairwise_cons.1 ha
    obtain ⟨hb1, hb2⟩ := List.pairwise_cons.1 hb
    have hxy : x = y := by
      rcases List.mem_cons.1 ((h x).1 (List.mem_cons_self ..)) with e | e
      · exact e
      · rcases List.mem_cons.1 ((h y).2 (List.mem_cons_self ..)) with e' | e'
        · exact e'.symm
        · exact absurd (List.lt_trans (hb1 x e) (ha1 y e')) (List.lt_irrefl _)
    subst hxy
    congr 1
    refine up_ext ha2 hb2 fun z => ⟨fun hz => ?_, fun hz => ?_⟩
    · rcases List.mem_cons.1 ((h z).1 (List.mem_cons_of_mem _ hz)) with e | e
      · subst e; exact absurd (ha1 z hz) (List.lt_irrefl _)
      · exact e
    · rcases List.mem_cons.1 ((h z).2 (List.mem_cons_of_mem _ hz)) with e | e
      · subst e; exact absurd (hb1 z hz) (List.lt_irrefl _)
      · exact e
theorem uniq_self {a : List Str} (h : Up a) : uniq a = a := up_ext (uniq_up a) h fun _ => uniq_mem
theorem uniq_congr {a b : List Str} (h : ∀ x, x ∈ a ↔ x ∈ b) : uniq a = uniq b := up_ext (uniq_up a) (uniq_up b) fun x => uniq_mem.trans ((h x).trans uniq_mem.symm)
theorem up_get {a : List Str} (h : Up a) {i j : Nat} (hij : i < j) (hj : j < a.length) : a.getD i [] < a.getD j [] := by
  rw [List.getD, List.getD, List.getElem?_eq_getElem (by omega), List.getElem?_eq_getElem hj]
  exact List.pairwise_iff_getElem.1 h i j (by omega) hj hij
theorem up_le {a : List Str} (h : Up a) {i j : Nat} (hij : i ≤ j) (hj : j < a.length) : a.getD i [] ≤ a.getD j [] := by
  by_cases e : i = j
  · subst e; exact List.le_refl _
  · exact le_of_lt' (up_get h (by omega) hj)
theorem up_inj {a : List Str} (h : Up a) {i j : Nat} (hi : i < a.length) (hj : j < a.length) (e : a.getD i [] = a.getD j []) : i = j := by
  rcases Nat.lt_trichotomy i j with k | k | k
  · exact absurd (e ▸ up_get h k hj) (List.lt_irrefl _)
  · exact k
  · exact absurd (e ▸ up_get h k hi) (List.lt_irrefl _)
theorem getD_mem {a : List Str} {i : Nat} (h : i < a.length) : a.getD i [] ∈ a := by
  rw [List.getD, List.getElem?_eq_getElem h]; exact List.getElem_mem h
theorem mem_getD {a : List Str} {x : Str} (h : x ∈ a) : ∃ i, i < a.length ∧ a.getD i [] = x := by
  obtain ⟨i, hi, e⟩ := List.getElem_of_mem h
  exact ⟨i, hi, by rw [List.getD, List.getElem?_eq_getElem hi]; exact e⟩
end Go.Proofs.YtjmomgmbmgdeoaaDoor
