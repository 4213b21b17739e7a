/-
  Knots in plain words: numbers tied to each other, the parts by their least numbers, the rows folded, the order of the numbers step by step and whether it has all, what a cycle is. No condition.
-/
import Derived.Test.YtjmomgmbmgdeoaaDoorHRf
import Derived.Test.YtjmomgmbmgdeoaaDoorHPn
namespace Go.Proofs.YtjmomgmbmgdeoaaDoor
set_option maxRecDepth 100000
set_option linter.unusedVariables false

/-! tied -/
theorem wk_lt {r : List Bv} (hr : RowsIn r) {a b : Nat} (h : Wk r a b) (ha : a < r.length) : b < r.length := by
  induction h with
  | refl => exact ha
  | step _ e _ =>
    rename_i c _ _
    rcases Nat.lt_or_ge c r.length with h' | h'
    · exact h'
    · rw [hr.row _ c h'] at e; cases e
/-- each comes to the other -/
def Mu (r : List Bv) (a b : Nat) : Prop := Wk r a b ∧ Wk r b a
theorem Mu.refl (r : List Bv) (a : Nat) : Mu r a a := ⟨.refl a, .refl a⟩
theorem Mu.symm {r : List Bv} {a b : Nat} (h : Mu r a b) : Mu r b a := ⟨h.2, h.1⟩
theorem Mu.trans {r : List Bv} {a b c : Nat} (h : Mu r a b) (k : Mu r b c) : Mu r a c := ⟨h.1.trans k.1, k.2.trans h.2⟩
/-- all that is tied to a number -/
def tied (r : List Bv) (n : Nat) : Bv := allR r (one n) &&& allR (turnR r) (one n)
theorem tied_bit {r : List Bv} (hr : RowsIn r) {n k : Nat} (hn : n < r.length) : (tied r n).getLsbD k = true ↔ Mu r n k := by
  unfold tied
  rw [and_bit, all_one hr hn, all_one (turnR_in hr) (by rw [turnR_length]; exact hn), walk_turn hr]
  exact Iff.rfl
theorem tied_in {r : List Bv} (hr : RowsIn r) {n : Nat} (hn : n < r.length) : SetIn r.length (tied r n) := fun k hk => by
  cases hb : (tied r n).getLsbD k
  · rfl
  · have := wk_lt hr ((tied_bit hr hn).1 hb).1 hn
    omega
theorem tied_lt {r : List Bv} (hr : RowsIn r) {n k : Nat} (hn : n < r.length) (h : (tied r n).getLsbD k = true) : k < r.length := wk_lt hr ((tied_bit hr hn).1 h).1 hn
theorem tied_self {r : List Bv} (hr : RowsIn r) {n : Nat} (hn : n < r.length) : (tied r n).getLsbD n = true := (tied_bit hr hn).2 (Mu.refl r n)
theorem tied_eq {r : List Bv} (hr : RowsIn r) {a b : Nat} (ha : a < r.length) (hb : b < r.length) (h : Mu r a b) : tied r a = tied r b :=
  bv_ext fun k _ => by
    rw [Bool.eq_iff_iff, tied_bit hr ha, tied_bit hr hb]
    exact ⟨fun x => h.symm.trans x, fun x => h.trans x⟩
theorem tied_both {r : List Bv} (hr : RowsIn r) {a b k : Nat} (ha : a < r.length) (hb : b < r.length) (h1 : (tied r a).getLsbD k = true) (h2 : (tied r b).getLsbD k = true) : tied r a = tied r b :=
  tied_eq hr ha hb (((tied_bit hr ha).1 h1).trans ((tied_bit hr hb).1 h2).symm)

/-! the parts, by their least numbers -/
/-- none below it is tied to it -/
def headR (r : List Bv) (n : Nat) : Bool := decide (tied r n &&& low n = 0#64)
theorem headR_iff {r : List Bv} (hr : RowsIn r) {n : Nat} (hn : n < r.length) : headR r n = true ↔ ∀ k, k < n → ¬ Mu r n k := by
  have h64 := hr.len
  unfold headR
  rw [decide_eq_true_iff, zero_iff]
  constructor
  · intro h k hk hm
    have e := h k
    rw [BitVec.getLsbD_and, (tied_bit hr hn).2 hm, low_bit n k (by omega), decide_eq_true hk] at e
    cases e
  · intro h k
    cases hb : (tied r n &&& low n).getLsbD k
    · rfl
    · obtain ⟨h1, h2⟩ := and_bit.1 hb
      rw [low_bit n k (bit_lt hb)] at h2
      exact absurd ((tied_bit hr hn).1 h1) (h k (of_decide_eq_true h2))
def headsTo (r : List Bv) (m : Nat) : List Nat := (List.range m).filter (headR r)
def partsTo (r : List Bv) (m : Nat) : List Bv := (headsTo r m).map (tied r)
def headsR (r : List Bv) : List Nat := headsTo r r.length
def partsR (r : List Bv) : List Bv := partsTo r r.length
theorem headsTo_succ (r : List Bv) (m : Nat) : headsTo r (m + 1) = if headR r m then headsTo r m ++ [m] else headsTo r m := by
  unfold headsTo
  rw [List.range_succ, List.filter_append]
  cases h : headR r m
  · simp [h]
  · simp [h]
theorem partsTo_succ (r : List Bv) (m : Nat) : partsTo r (m + 1) = if headR r m then partsTo r m ++ [tied r m] else partsTo r m := by
  unfold partsTo
  rw [headsTo_succ]
  cases h : headR r m
  · rw [if_neg (by simp), if_neg (by simp)]
  · rw [if_pos rfl, if_pos rfl, List.map_append]; rfl
theorem headsTo_mem {r : List Bv} {m n : Nat} : n ∈ headsTo r m ↔ n < m ∧ headR r n = true := by
  unfold headsTo
  rw [List.mem_filter, List.mem_range]
theorem headsTo_up (r : List Bv) (m : Nat) : (headsTo r m).Pairwise (· < ·) := List.Pairwise.filter _ List.pairwise_lt_range
theorem partsTo_length (r : List Bv) (m : Nat) : (partsTo r m).length = (headsTo r m).length := List.length_map ..
theorem headsTo_length (r : List Bv) (m : Nat) : (headsTo r m).length ≤ m := by
  have := List.length_filter_le (headR r) (List.range m)
  rw [List.length_range] at this
  exact this
theorem parts_length (r : List Bv) : (partsR r).length = (headsR r).length := partsTo_length r _
theorem parts_le (r : List Bv) : (partsR r).length ≤ r.length := by rw [parts_length]; exact headsTo_length r _
/-- every number has a least one that is tied to it -/
theorem head_of {r : List Bv} (hr : RowsIn r) : ∀ {n : Nat}, n < r.length → ∃ m, m ≤ n ∧ headR r m = true ∧ Mu r m n := by
  intro n
  induction n using Nat.strongRecOn with
  | ind n ih =>
    intro hn
    by_cases h : headR r n = true
    · exact ⟨n, Nat.le_refl _, h, Mu.refl r n⟩
    · have : ∃ k, k < n ∧ Mu r n k := Classical.byContradiction fun h2 => h ((headR_iff hr hn).2 fun k hk hm => h2 ⟨k, hk, hm⟩)
      obtain ⟨k, hk, hm⟩ := this
      obtain ⟨m, h1, h2, h3⟩ := ih k hk (by omega)
      exact ⟨m, by omega, h2, h3.trans hm.symm⟩
theorem head_one {r : List Bv} (hr : RowsIn r) {a b : Nat} (ha : a < r.length) (hb : b < r.length) (h1 : headR r a = true) (h2 : headR r b = true) (h : Mu r a b) : a = b := by
  rcases Nat.lt_trichotomy a b with k | k | k
  · exact absurd h.symm ((headR_iff hr hb).1 h2 a k)
  · exact k
  · exact absurd h ((headR_iff hr ha).1 h1 b k)
/-- all that is tied to a number below m -/
def doneTo (r : List Bv) : Nat → Bv
  | 0 => 0#64
  | m + 1 => if headR r m then doneTo r m ||| tied r m else doneTo r m
theorem doneTo_bit {r : List Bv} (hr : RowsIn r) {k : Nat} : ∀ {m : Nat}, m ≤ r.length → ((doneTo r m).getLsbD k = true ↔ ∃ i, i < m ∧ Mu r i k)
  | 0, _ => by
    show (0#64 : Bv).getLsbD k = true ↔ _
    simp
  | m + 1, hm => by
    have ih := doneTo_bit hr (k := k) (m := m) (by omega)
    unfold doneTo
    by_cases h : headR r m = true
    · rw [if_pos h, or_bit, ih, tied_bit hr (by omega)]
      constructor
      · rintro (⟨i, h1, h2⟩ | h2)
        · exact ⟨i, by omega, h2⟩
        · exact ⟨m, by omega, h2⟩
      · rintro ⟨i, h1, h2⟩
        by_cases e : i = m
        · subst e; exact .inr h2
        · exact .inl ⟨i, by omega, h2⟩
    · rw [if_neg h, ih]
      constructor
      · rintro ⟨i, h1, h2⟩; exact ⟨i, by omega, h2⟩
      · rintro ⟨i, h1, h2⟩
        by_cases e : i = m
        · subst e
          obtain ⟨j, h3, h4, h5⟩ := head_of hr (n := i) (by omega)
          have : j ≠ i := fun e => by subst e; exact h h4
          exact ⟨j, by omega, h5.trans h2⟩
        · exact ⟨i, by omega, h2⟩
theorem done_head {r : List Bv} (hr : RowsIn r) {m : Nat} (hm : m < r.length) : (doneTo r m).getLsbD m = !headR r m := by
  cases h : headR r m
  · show _ = true
    rw [doneTo_bit hr (by omega)]
    obtain ⟨j, h3, h4, h5⟩ := head_of hr (n := m) hm
    have : j ≠ m := fun e => by subst e; rw [h] at h4; cases h4
    exact ⟨j, by omega, h5⟩
  · show _ = false
    cases hb : (doneTo r m).getLsbD m
    · rfl
    · obtain ⟨i, h1, h2⟩ := (doneTo_bit hr (by omega)).1 hb
      exact absurd h2.symm ((headR_iff hr hm).1 h i h1)
theorem done_all {r : List Bv} (hr : RowsIn r) : doneTo r r.length = low r.length :=
  bv_ext fun k hk => by
    rw [Bool.eq_iff_iff, doneTo_bit hr (Nat.le_refl _), low_bit _ _ hk, decide_eq_true_iff]
    constructor
    · rintro ⟨i, h1, h2⟩; exact wk_lt hr h2.1 h1
    · exact fun h => ⟨k, h, Mu.refl r k⟩
/-- the parts by their place -/
theorem part_at {r : List Bv} {i : Nat} (h : i < (partsR r).length) : ∃ n, (headsR r)[i]? = some n ∧ n < r.length ∧ headR r n = true ∧ wAt (partsR r) i = tied r n := by
  have hl : i < (headsR r).length := by rw [← parts_length]; exact h
  have hm := List.getElem_mem hl
  obtain ⟨h1, h2⟩ := headsTo_mem.1 hm
  refine ⟨(headsR r)[i], List.getElem?_eq_getElem hl, h1, h2, ?_⟩
  unfold wAt partsR partsTo
  rw [List.getD, List.getElem?_map]
  show ((headsR r)[i]?.map (tied r)).getD _ = _
  rw [List.getElem?_eq_getElem hl]; rfl
theorem part_of {r : List Bv} (hr : RowsIn r) {n : Nat} (hn : n < r.length) : ∃ i, i < (partsR r).length ∧ (wAt (partsR r) i).getLsbD n = true := by
  obtain ⟨m, h1, h2, h3⟩ := head_of hr hn
  have hm : m ∈ headsR r := headsTo_mem.2 ⟨by omega, h2⟩
  obtain ⟨i, hi, e⟩ := List.getElem_of_mem hm
  refine ⟨i, by rw [parts_length]; exact hi, ?_⟩
  obtain ⟨k, k1, k2, _, k4⟩ := part_at (r := r) (i := i) (by rw [parts_length]; exact hi)
  rw [List.getElem?_eq_getElem hi, e] at k1
  cases k1
  rw [k4]
  exact (tied_bit hr k2).2 h3
theorem part_lt {r : List Bv} (hr : RowsIn r) {i n : Nat} (hi : i < (partsR r).length) (h : (wAt (partsR r) i).getLsbD n = true) : n < r.length := by
  obtain ⟨m, _, h2, _, h4⟩ := part_at hi
  rw [h4] at h
  exact tied_lt hr h2 h
/-- of two numbers in parts: they are tied just if the part is the same -/
theorem part_mu {r : List Bv} (hr : RowsIn r) {i k a b : Nat} (hi : i < (partsR r).length) (hk : k < (partsR r).length) (ha : (wAt (partsR r) i).getLsbD a = true) (hb : (wAt (partsR r) k).getLsbD b = true) : Mu r a b ↔ i = k := by
  obtain ⟨m, m1, m2, m3, m4⟩ := part_at hi
  obtain ⟨n, n1, n2, n3, n4⟩ := part_at hk
  rw [m4, tied_bit hr m2] at ha
  rw [n4, tied_bit hr n2] at hb
  constructor
  · intro h
    have e := head_one hr m2 n2 m3 n3 ((ha.trans h).trans hb.symm)
    subst e
    have hi' : i < (headsR r).length := by rw [← parts_length]; exact hi
    have hk' : k < (headsR r).length := by rw [← parts_length]; exact hk
    rw [List.getElem?_eq_getElem hi'] at m1
    rw [List.getElem?_eq_getElem hk'] at n1
    have up := List.pairwise_iff_getElem.1 (headsTo_up r r.length)
    rcases Nat.lt_trichotomy i k with h' | h' | h'
    · have := up i k hi' hk' h'
      have e1 := Option.some.inj m1; have e2 := Option.some.inj n1
      unfold headsR at e1 e2; omega
    · exact h'
    · have := up k i hk' hi' h'
      have e1 := Option.some.inj m1; have e2 := Option.some.inj n1
      unfold headsR at e1 e2; omega
  · intro h
    subst h
    rw [m1] at n1
    cases n1
    exact ha.symm.trans hb
theorem part_in {r : List Bv} (hr : RowsIn r) {i : Nat} (hi : i < (partsR r).length) : SetIn r.length (wAt (partsR r) i) := by
  obtain ⟨m, _, h2, _, h4⟩ := part_at hi
  rw [h4]; exact tied_in hr h2
theorem part_some {r : List Bv} (hr : RowsIn r) {i : Nat} (hi : i < (partsR r).length) : ∃ n, (wAt (partsR r) i).getLsbD n = true := by
  obtain ⟨m, _, h2, _, h4⟩ := part_at hi
  exact ⟨m, by rw [h4]; exact tied_self hr h2⟩

/-! a set of the numbers below m that pass a test -/
def setTo (f : Nat → Bool) : Nat → Bv
  | 0 => 0#64
  | m + 1 => if f m then setTo f m ||| one m else setTo f m
theorem setTo_bit (f : Nat → Bool) {k : Nat} (hk : k < 64) : ∀ m, ((setTo f m).getLsbD k = true ↔ k < m ∧ f k = true)
  | 0 => by
    show (0#64 : Bv).getLsbD k = true ↔ _
    simp
  | m + 1 => by
    have ih := setTo_bit f hk m
    unfold setTo
    by_cases h : f m = true
    · rw [if_pos h, or_bit, ih, one_bit m k hk, decide_eq_true_iff]
      constructor
      · rintro (⟨h1, h2⟩ | rfl)
        · exact ⟨by omega, h2⟩
        · exact ⟨by omega, h⟩
      · rintro ⟨h1, h2⟩
        by_cases e : k = m
        · exact .inr e
        · exact .inl ⟨by omega, h2⟩
    · rw [if_neg h, ih]
      constructor
      · rintro ⟨h1, h2⟩; exact ⟨by omega, h2⟩
      · rintro ⟨h1, h2⟩
        refine ⟨?_, h2⟩
        by_cases e : k = m
        · subst e; exact absurd h2 h
        · omega

/-! the rows folded -/
/-- what the numbers of part i need meets part k -/
def meets (r p : List Bv) (i k : Nat) : Bool := decide (needR r (wAt p i) &&& wAt p k ≠ 0#64)
theorem meets_iff {r p : List Bv} {i k : Nat} : meets r p i k = true ↔ ∃ n m, (wAt p i).getLsbD n = true ∧ (wAt r n).getLsbD m = true ∧ (wAt p k).getLsbD m = true := by
  unfold meets
  rw [decide_eq_true_iff, nonzero_iff]
  constructor
  · rintro ⟨m, hm⟩
    obtain ⟨h1, h2⟩ := and_bit.1 hm
    obtain ⟨n, h3, h4⟩ := needR_bit.1 h1
    exact ⟨n, m, h3, h4, h2⟩
  · rintro ⟨n, m, h1, h2, h3⟩
    exact ⟨m, and_bit.2 ⟨needR_bit.2 ⟨n, h1, h2⟩, h3⟩⟩
def foldRow (r p : List Bv) (i : Nat) : Bv := setTo (fun k => decide (i ≠ k) && meets r p i k) p.length
def foldP (r p : List Bv) : List Bv := (List.range p.length).map (foldRow r p)
def foldR (r : List Bv) : List Bv := foldP r (partsR r)
theorem foldP_length (r p : List Bv) : (foldP r p).length = p.length := by unfold foldP; rw [List.length_map, List.length_range]
theorem foldR_length (r : List Bv) : (foldR r).length = (partsR r).length := foldP_length _ _
theorem foldP_at {r p : List Bv} {i : Nat} (h : i < p.length) : wAt (foldP r p) i = foldRow r p i := by
  unfold foldP wAt
  rw [List.getD, List.getElem?_map, List.getElem?_range h]; rfl
theorem foldP_bit {r p : List Bv} (hp : p.length ≤ 64) {i k : Nat} : (wAt (foldP r p) i).getLsbD k = true ↔ i < p.length ∧ k < p.length ∧ i ≠ k ∧ ∃ n m, (wAt p i).getLsbD n = true ∧ (wAt r n).getLsbD m = true ∧ (wAt p k).getLsbD m = true := by
  rcases Nat.lt_or_ge i p.length with hi | hi
  · rw [foldP_at hi]
    unfold foldRow
    constructor
    · intro h
      have hk := bit_lt h
      obtain ⟨h1, h2⟩ := (setTo_bit _ hk _).1 h
      rw [Bool.and_eq_true, decide_eq_true_iff] at h2
      exact ⟨hi, h1, h2.1, meets_iff.1 h2.2⟩
    · rintro ⟨_, h1, h2, h3⟩
      refine (setTo_bit _ (by omega) _).2 ⟨h1, ?_⟩
      rw [Bool.and_eq_true, decide_eq_true_iff]
      exact ⟨h2, meets_iff.2 h3⟩
  · constructor
    · intro h
      have := wAt_lt h
      rw [foldP_length] at this
      omega
    · rintro ⟨h, _⟩; omega
theorem foldR_bit {r : List Bv} (hr : RowsIn r) {i k : Nat} : (wAt (foldR r) i).getLsbD k = true ↔ i < (partsR r).length ∧ k < (partsR r).length ∧ i ≠ k ∧ ∃ n m, (wAt (partsR r) i).getLsbD n = true ∧ (wAt r n).getLsbD m = true ∧ (wAt (partsR r) k).getLsbD m = true :=
  foldP_bit (by have := parts_le r; have := hr.len; omega)
theorem foldR_in {r : List Bv} (hr : RowsIn r) : RowsIn (foldR r) := by
  have h1 := parts_le r
  have h2 := hr.len
  refine ⟨by rw [foldR_length]; omega, fun i k hk => ?_⟩
  cases hb : (wAt (foldR r) i).getLsbD k
  · rfl
  · have := ((foldR_bit hr).1 hb).2.1
    rw [foldR_length] at hk
    omega
theorem walk_fold {r : List Bv} (hr : RowsIn r) {a b i k : Nat} (hi : i < (partsR r).length) (hk : k < (partsR r).length) (ha : (wAt (partsR r) i).getLsbD a = true) (hb : (wAt (partsR r) k).getLsbD b = true) : Wk r a b ↔ Wk (foldR r) i k := by
  have ha' := part_lt hr hi ha
  constructor
  · intro h
    induction h generalizing k with
    | refl =>
      rw [(part_mu hr hi hk ha hb).1 (Mu.refl r a)]
      exact .refl _
    | step h e ih =>
      rename_i b c
      obtain ⟨j, j1, j2⟩ := part_of hr (wk_lt hr h ha')
      have w := ih j1 j2
      by_cases e2 : j = k
      · subst e2; exact w
      · exact .step w ((foldR_bit hr).2 ⟨j1, hk, e2, b, c, j2, e, hb⟩)
  · intro h
    induction h generalizing b with
    | refl => exact ((part_mu hr hi hk ha hb).2 rfl).1
    | step h e ih =>
      rename_i j k
      obtain ⟨j1, _, _, n, m, n1, n2, n3⟩ := (foldR_bit hr).1 e
      have w := ih j1 n1
      exact (Wk.step w n2).trans ((part_mu hr hk hk n3 hb).2 rfl).1

/-! cycles -/
/-- a number that comes to itself by at least one step -/
def Cyc (r : List Bv) : Prop := ∃ n k, (wAt r n).getLsbD k = true ∧ Wk r k n
theorem fold_tree {r : List Bv} (hr : RowsIn r) : ¬ Cyc (foldR r) := by
  rintro ⟨i, k, h1, h2⟩
  obtain ⟨hi, hk, hne, n, m, n1, n2, n3⟩ := (foldR_bit hr).1 h1
  have w1 : Wk r n m := .one n2
  have w2 : Wk r m n := (walk_fold hr hk hi n3 n1).2 h2
  exact hne ((part_mu hr hi hk n1 n3).1 ⟨w1, w2⟩)
theorem all_sub {r : List Bv} (hr : RowsIn r) {i k : Nat} (hi : i < r.length) (hk : k < r.length) (h : Wk r i k) : Le (allR r (one k)) (allR r (one i)) := fun x hx => (all_one hr hi).2 (h.trans ((all_one hr hk).1 hx))
/-- numbers that each need one of themselves lie on a cycle -/
theorem cyc_of {r : List Bv} (hr : RowsIn r) {S : Nat → Prop} (h : ∀ i, S i → i < r.length ∧ ∃ k, S k ∧ (wAt r i).getLsbD k = true) : ∀ c i, S i → cnt (allR r (one i)) = c → Cyc r := by
  intro c
  induction c using Nat.strongRecOn with
  | ind c ih =>
    intro i hi hc
    obtain ⟨h1, k, h2, h3⟩ := h i hi
    have hk := (h k h2).1
    have le := all_sub hr h1 hk (.one h3)
    by_cases e : allR r (one k) = allR r (one i)
    · refine ⟨i, k, h3, (all_one hr hk).1 ?_⟩
      rw [e]
      exact (all_one hr h1).2 (.refl i)
    · have := cnt_less le e
      exact ih _ (by omega) k h2 rfl

/-! the order, one by one the least number whose needs all stand there -/
def fit (r : List Bv) (s : Bv) (i : Nat) : Bool := !s.getLsbD i && decide (wAt r i &&& ~~~s = 0#64)
theorem fit_iff {r : List Bv} {s : Bv} {i : Nat} : fit r s i = true ↔ s.getLsbD i = false ∧ Le (wAt r i) s := by
  unfold fit
  rw [Bool.and_eq_true, Bool.not_eq_true', decide_eq_true_iff, le_iff]
def setL (l : List Nat) : Bv := l.foldl (fun u n => u ||| one n) 0#64
theorem setL_snoc (l : List Nat) (n : Nat) : setL (l ++ [n]) = setL l ||| one n := by unfold setL; rw [List.foldl_append]; rfl
theorem setL_bit' {k : Nat} (hk : k < 64) : ∀ (l : List Nat) (u : Bv), ((l.foldl (fun u n => u ||| one n) u).getLsbD k = true ↔ u.getLsbD k = true ∨ k ∈ l)
  | [], u => by simp
  | x :: l, u => by
    rw [List.foldl_cons, setL_bit' hk l, or_bit, one_bit x k hk, decide_eq_true_iff, List.mem_cons]
    constructor
    · rintro ((h | h) | h)
      · exact .inl h
      · exact .inr (.inl h)
      · exact .inr (.inr h)
    · rintro (h | h | h)
      · exact .inl (.inl h)
      · exact .inl (.inr h)
      · exact .inr h
theorem setL_bit {l : List Nat} {k : Nat} (hk : k < 64) : (setL l).getLsbD k = true ↔ k ∈ l := by
  unfold setL
  rw [setL_bit' hk]
  constructor
  · rintro (h | h)
    · simp at h
    · exact h
  · exact .inr
/-- the least number that fits -/
def nextR (r : List Bv) (s : Bv) : Option Nat := (List.range r.length).find? (fit r s)
theorem nextR_some {r : List Bv} {s : Bv} {i : Nat} (h : nextR r s = some i) : i < r.length ∧ fit r s i = true ∧ ∀ k, k < i → fit r s k = false := by
  unfold nextR at h
  obtain ⟨h1, k, h2, h3, h4⟩ := List.find?_eq_some_iff_getElem.1 h
  rw [List.getElem_range] at h3
  subst h3
  rw [List.length_range] at h2
  refine ⟨h2, h1, fun j hj => ?_⟩
  have := h4 j hj
  rw [List.getElem_range] at this
  simpa using this
theorem nextR_mk {r : List Bv} {s : Bv} {i : Nat} (hi : i < r.length) (h : fit r s i = true) (hl : ∀ k, k < i → fit r s k = false) : nextR r s = some i := by
  unfold nextR
  refine List.find?_eq_some_iff_getElem.2 ⟨h, i, by rw [List.length_range]; exact hi, List.getElem_range .., fun j hj => ?_⟩
  rw [List.getElem_range, hl j hj]; rfl
theorem nextR_none {r : List Bv} {s : Bv} (h : ∀ i, i < r.length → fit r s i = false) : nextR r s = none := by
  unfold nextR
  rw [List.find?_eq_none]
  intro i hi
  rw [h i (List.mem_range.1 hi)]; simp
theorem nextR_no {r : List Bv} {s : Bv} (h : nextR r s = none) {i : Nat} (hi : i < r.length) : fit r s i = false := by
  unfold nextR at h
  have := List.find?_eq_none.1 h i (List.mem_range.2 hi)
  simpa using this
def ordTo (r : List Bv) : Nat → List Nat
  | 0 => []
  | m + 1 => match nextR r (setL (ordTo r m)) with
    | some i => ordTo r m ++ [i]
    | none => ordTo r m
def ordR (r : List Bv) : List Nat := ordTo r r.length
theorem ordTo_some {r : List Bv} {m i : Nat} (h : nextR r (setL (ordTo r m)) = some i) : ordTo r (m + 1) = ordTo r m ++ [i] := by
  show (match nextR r (setL (ordTo r m)) with | some i => ordTo r m ++ [i] | none => ordTo r m) = _
  rw [h]
theorem ordTo_none {r : List Bv} {m : Nat} (h : nextR r (setL (ordTo r m)) = none) : ordTo r (m + 1) = ordTo r m := by
  show (match nextR r (setL (ordTo r m)) with | some i => ordTo r m ++ [i] | none => ordTo r m) = _
  rw [h]
theorem ordTo_stop {r : List Bv} {m : Nat} (h : nextR r (setL (ordTo r m)) = none) : ∀ d, ordTo r (m + d) = ordTo r m
  | 0 => rfl
  | d + 1 => by
    have ih := ordTo_stop h d
    show ordTo r (m + d + 1) = _
    rw [ordTo_none (by rw [ih]; exact h), ih]
/-- each number once, after all that it needs -/
structure Ordd (r : List Bv) (l : List Nat) : Prop where
  lt : ∀ n ∈ l, n < r.length
  nd : l.Nodup
  bef : ∀ (p n : Nat), l[p]? = some n → ∀ k, (wAt r n).getLsbD k = true → k ∈ l.take p
theorem ordd_nil (r : List Bv) : Ordd r [] := ⟨fun n h => absurd h List.not_mem_nil, List.nodup_nil, fun p n h => by simp at h⟩
theorem ordd_snoc {r : List Bv} (hr : RowsIn r) {l : List Nat} {i : Nat} (h : Ordd r l) (hi : i < r.length) (hf : fit r (setL l) i = true) : Ordd r (l ++ [i]) := by
  have h64 := hr.len
  obtain ⟨f1, f2⟩ := fit_iff.1 hf
  have hni : i ∉ l := fun hm => by rw [(setL_bit (by omega)).2 hm] at f1; cases f1
  refine ⟨fun n hn => ?_, ?_, fun p n hp k hk => ?_⟩
  · rcases List.mem_append.1 hn with h' | h'
    · exact h.lt n h'
    · rw [List.mem_singleton] at h'; subst h'; exact hi
  · exact List.nodup_append.2 ⟨h.nd, by simp, fun a ha b hb e => by rw [List.mem_singleton] at hb; subst hb e; exact hni ha⟩
  · rcases Nat.lt_or_ge p l.length with h' | h'
    · rw [List.getElem?_append_left h'] at hp
      rw [List.take_append_of_le_length (Nat.le_of_lt h')]
      exact h.bef p n hp k hk
    · have hlen := (List.getElem?_eq_some_iff.1 hp).1
      rw [List.length_append, List.length_singleton] at hlen
      have hpl : p = l.length := by omega
      subst hpl
      rw [List.getElem?_append_right (Nat.le_refl _), Nat.sub_self] at hp
      obtain rfl : i = n := by simpa using hp
      rw [List.take_left]
      exact (setL_bit (bit_lt hk)).1 (f2 k hk)
theorem ordTo_ordd {r : List Bv} (hr : RowsIn r) : ∀ m, Ordd r (ordTo r m)
  | 0 => ordd_nil r
  | m + 1 => by
    have ih := ordTo_ordd hr m
    cases h : nextR r (setL (ordTo r m)) with
    | none => rw [ordTo_none h]; exact ih
    | some i =>
      rw [ordTo_some h]
      obtain ⟨h1, h2, _⟩ := nextR_some h
      exact ordd_snoc hr ih h1 h2
theorem ordTo_len {r : List Bv} : ∀ m, (ordTo r m).length ≤ m
  | 0 => Nat.le_refl _
  | m + 1 => by
    have ih := ordTo_len (r := r) m
    cases h : nextR r (setL (ordTo r m)) with
    | none => rw [ordTo_none h]; omega
    | some i => rw [ordTo_some h, List.length_append]; simp; omega
/-- as long as one fits each round adds one -/
theorem ordTo_grow {r : List Bv} : ∀ m, (ordTo r m).length = m ∨ nextR r (setL (ordTo r m)) = none
  | 0 => .inl rfl
  | m + 1 => by
    cases h : nextR r (setL (ordTo r m)) with
    | none => rw [ordTo_none h]; exact .inr h
    | some i =>
      rcases ordTo_grow (r := r) m with h1 | h1
      · rw [ordTo_some h, List.length_append, h1]; exact .inl rfl
      · rw [h] at h1; cases h1
/-- different numbers below m are at most m -/
theorem nodup_le {l : List Nat} {m : Nat} (hd : l.Nodup) (h : ∀ n ∈ l, n < m) : l.length ≤ m := by
  have := List.Nodup.length_le_of_subset hd (fun n hn => List.mem_range.2 (h n hn) : l ⊆ List.range m)
  rwa [List.length_range] at this
/-- one that is missing -/
theorem miss {l : List Nat} {m : Nat} (hl : l.length < m) : ∃ n, n < m ∧ n ∉ l := by
  refine Classical.byContradiction fun h => ?_
  have h2 : ∀ n ∈ List.range m, n ∈ l := fun n hn => Classical.byContradiction fun h3 => h ⟨n, List.mem_range.1 hn, h3⟩
  have := List.Nodup.length_le_of_subset (List.nodup_range (n := m)) h2
  rw [List.length_range] at this
  omega
theorem take_get {l : List Nat} {p s x : Nat} (h : (l.take p)[s]? = some x) : s < p ∧ l[s]? = some x := by
  rw [List.getElem?_take] at h
  by_cases e : s < p
  · rw [if_pos e] at h; exact ⟨e, h⟩
  · rw [if_neg e] at h; cases h
/-- a walk leads backwards in the order -/
theorem ordd_walk {r : List Bv} {l : List Nat} (h : Ordd r l) {a b : Nat} (w : Wk r a b) : ∀ {p : Nat}, l[p]? = some a → ∃ q, q ≤ p ∧ l[q]? = some b := by
  induction w with
  | refl => exact fun hp => ⟨_, Nat.le_refl _, hp⟩
  | step _ e ih =>
    intro p hp
    obtain ⟨q, h1, h2⟩ := ih hp
    obtain ⟨s, h3⟩ := List.mem_iff_getElem?.1 (h.bef q _ h2 _ e)
    obtain ⟨h4, h5⟩ := take_get h3
    exact ⟨s, by omega, h5⟩
theorem ordd_full {r : List Bv} {l : List Nat} (h : Ordd r l) (hl : l.length = r.length) {n : Nat} (hn : n < r.length) : n ∈ l :=
  Classical.byContradiction fun hm => by
    have := List.Nodup.length_le_of_subset (l₁ := n :: l) (l₂ := List.range r.length) (List.nodup_cons.2 ⟨hm, h.nd⟩) (fun x hx => by
      rcases List.mem_cons.1 hx with rfl | hx
      · exact List.mem_range.2 hn
      · exact List.mem_range.2 (h.lt x hx))
    rw [List.length_range, List.length_cons] at this
    omega
theorem ordd_tree {r : List Bv} {l : List Nat} (h : Ordd r l) (hl : l.length = r.length) : ¬ Cyc r := by
  rintro ⟨n, k, h1, h2⟩
  obtain ⟨p, hp⟩ := List.mem_iff_getElem?.1 (ordd_full h hl (wAt_lt h1))
  obtain ⟨s, h3⟩ := List.mem_iff_getElem?.1 (h.bef p n hp k h1)
  obtain ⟨h4, h4'⟩ := take_get h3
  obtain ⟨q, h5, h6⟩ := ordd_walk h h2 h4'
  have hq := (List.getElem?_eq_some_iff.1 h6).1
  have hpl := (List.getElem?_eq_some_iff.1 hp).1
  exact List.pairwise_iff_getElem.1 h.nd q p hq hpl (by omega) (by rw [(List.getElem?_eq_some_iff.1 h6).2, (List.getElem?_eq_some_iff.1 hp).2])
/-- where none fits and some are missing there is a cycle -/
theorem stuck_cyc {r : List Bv} (hr : RowsIn r) {l : List Nat} (hl : l.length < r.length) (h : nextR r (setL l) = none) : Cyc r := by
  have h64 := hr.len
  obtain ⟨n, h1, h2⟩ := miss hl
  refine cyc_of hr (S := fun i => i < r.length ∧ i ∉ l) (fun i ⟨h3, h4⟩ => ⟨h3, ?_⟩) _ n ⟨h1, h2⟩ rfl
  have hf := nextR_no h h3
  have hs : (setL l).getLsbD i = false := by
    cases hb : (setL l).getLsbD i
    · rfl
    · exact absurd ((setL_bit (by omega)).1 hb) h4
  have : ¬ Le (wAt r i) (setL l) := fun h5 => by
    rw [(fit_iff (r := r)).2 ⟨hs, h5⟩] at hf; cases hf
  refine Classical.byContradiction fun h6 => this fun k hk => ?_
  have hk64 := bit_lt hk
  refine Classical.byContradiction fun h7 => h6 ⟨k, ⟨?_, fun h8 => h7 ((setL_bit hk64).2 h8)⟩, hk⟩
  rcases Nat.lt_or_ge k r.length with h' | h'
  · exact h'
  · rw [hr.row i k h'] at hk; cases hk
theorem ord_len (r : List Bv) : (ordR r).length ≤ r.length := ordTo_len _
theorem ord_full {r : List Bv} (hr : RowsIn r) : (ordR r).length = r.length ↔ ¬ Cyc r := by
  constructor
  · exact ordd_tree (ordTo_ordd hr _)
  · intro h
    rcases ordTo_grow (r := r) r.length with h1 | h1
    · exact h1
    · have := ord_len r
      rcases Nat.lt_or_ge (ordR r).length r.length with h2 | h2
      · exact absurd (stuck_cyc hr h2 h1) h
      · omega
theorem ord_ordd {r : List Bv} (hr : RowsIn r) : Ordd r (ordR r) := ordTo_ordd hr _
/-- a cycle: a number needs itself, or two different ones are tied -/
theorem cyc_iff {r : List Bv} : Cyc r ↔ (∃ n, (wAt r n).getLsbD n = true) ∨ ∃ a b, a ≠ b ∧ Mu r a b := by
  constructor
  · rintro ⟨n, k, h1, h2⟩
    by_cases e : n = k
    · subst e; exact .inl ⟨n, h1⟩
    · exact .inr ⟨n, k, e, .one h1, h2⟩
  · rintro (⟨n, h⟩ | ⟨a, b, hne, h1, h2⟩)
    · exact ⟨n, n, h, .refl n⟩
    · have : ∃ k, (wAt r a).getLsbD k = true ∧ Wk r k b := by
        clear h2
        induction h1 with
        | refl => exact absurd rfl hne
        | step w e ih =>
          rename_i b c
          by_cases e2 : a = b
          · subst e2; exact ⟨c, e, .refl c⟩
          · obtain ⟨k, k1, k2⟩ := ih e2
            exact ⟨k, k1, .step k2 e⟩
      obtain ⟨k, k1, k2⟩ := this
      exact ⟨a, k, k1, k2.trans h2⟩
/-- there is a cycle just if a number is tied to another or needs itself, in terms of the parts -/
theorem tree_parts {r : List Bv} (hr : RowsIn r) (h : ¬ Cyc r) : (partsR r).length = r.length := by
  have : headsR r = List.range r.length := by
    unfold headsR headsTo
    rw [List.filter_eq_self]
    intro n hn
    have hn' := List.mem_range.1 hn
    rw [headR_iff hr hn']
    exact fun k hk hm => h (cyc_iff.2 (.inr ⟨n, k, by omega, hm⟩))
  rw [parts_length, this, List.length_range]

/-! a ring -/
structure RingL (r : List Bv) (l : List Nat) : Prop where
  pos : 0 < l.length
  lt : ∀ n ∈ l, n < r.length
  nd : l.Nodup
  nx : ∀ (i n : Nat), l[i]? = some n → ∀ m, l[(i + 1) % l.length]? = some m → (wAt r n).getLsbD m = true
theorem ring_cyc {r : List Bv} {l : List Nat} (h : RingL r l) : Cyc r := by
  have hp := h.pos
  have w : ∀ i (hi : i < l.length), Wk r l[0] l[i] := fun i => by
    induction i with
    | zero => exact fun _ => .refl _
    | succ i ih =>
      intro hi
      refine .step (ih (by omega)) (h.nx i _ (List.getElem?_eq_getElem (by omega)) _ ?_)
      rw [Nat.mod_eq_of_lt hi]
      exact List.getElem?_eq_getElem hi
  have hlast : l.length - 1 < l.length := by omega
  refine ⟨l[l.length - 1], l[0], h.nx (l.length - 1) _ (List.getElem?_eq_getElem hlast) _ ?_, w _ hlast⟩
  rw [show l.length - 1 + 1 = l.length by omega, Nat.mod_self]
  exact List.getElem?_eq_getElem hp

/-! the union of the first rows -/
def unionTo (z : List Bv) : Nat → Bv
  | 0 => 0#64
  | j + 1 => unionTo z j ||| wAt z j
theorem unionTo_bit {z : List Bv} {k : Nat} : ∀ {j : Nat}, (unionTo z j).getLsbD k = true ↔ ∃ i, i < j ∧ (wAt z i).getLsbD k = true
  | 0 => by
    show (0#64 : Bv).getLsbD k = true ↔ _
    simp
  | j + 1 => by
    show (unionTo z j ||| wAt z j).getLsbD k = true ↔ _
    rw [or_bit, unionTo_bit]
    constructor
    · rintro (⟨i, h1, h2⟩ | h)
      · exact ⟨i, by omega, h2⟩
      · exact ⟨j, by omega, h⟩
    · rintro ⟨i, h1, h2⟩
      by_cases e : i = j
      · subst e; exact .inr h2
      · exact .inl ⟨i, by omega, h2⟩
theorem parts_apart {r : List Bv} (hr : RowsIn r) {j : Nat} (hj : j < (partsR r).length) : unionTo (partsR r) j &&& wAt (partsR r) j = 0#64 :=
  zero_iff.2 fun k => by
    cases hb : (unionTo (partsR r) j &&& wAt (partsR r) j).getLsbD k
    · rfl
    · obtain ⟨h1, h2⟩ := and_bit.1 hb
      obtain ⟨i, h3, h4⟩ := unionTo_bit.1 h1
      have := (part_mu hr (by omega) hj h4 h2).1 (Mu.refl r k)
      omega
theorem parts_all {r : List Bv} (hr : RowsIn r) : unionTo (partsR r) (partsR r).length = low r.length :=
  bv_ext fun k hk => by
    rw [Bool.eq_iff_iff, unionTo_bit, low_bit _ _ hk, decide_eq_true_iff]
    constructor
    · rintro ⟨i, h1, h2⟩; exact part_lt hr h1 h2
    · exact fun h => part_of hr h
/-- the least number of a part -/
theorem part_least {r : List Bv} (hr : RowsIn r) {i n : Nat} (hi : i < (partsR r).length) (h : (headsR r)[i]? = some n) : (wAt (partsR r) i).getLsbD n = true ∧ ∀ k, k < n → (wAt (partsR r) i).getLsbD k = false := by
  obtain ⟨m, m1, m2, m3, m4⟩ := part_at hi
  rw [h] at m1
  cases m1
  rw [m4]
  refine ⟨tied_self hr m2, fun k hk => ?_⟩
  cases hb : (tied r n).getLsbD k
  · rfl
  · exact absurd ((tied_bit hr m2).1 hb) ((headR_iff hr m2).1 m3 k hk)
theorem heads_up {r : List Bv} {i k a b : Nat} (h : i < k) (ha : (headsR r)[i]? = some a) (hb : (headsR r)[k]? = some b) : a < b := by
  obtain ⟨h1, e1⟩ := List.getElem?_eq_some_iff.1 ha
  obtain ⟨h2, e2⟩ := List.getElem?_eq_some_iff.1 hb
  have := List.pairwise_iff_getElem.1 (headsTo_up r r.length) i k h1 h2 h
  unfold headsR at e1 e2
  omega
/-- two numbers lie in one part just if they are tied -/
theorem parts_one {r : List Bv} (hr : RowsIn r) {a b : Nat} (ha : a < r.length) (hb : b < r.length) : (∃ i, i < (partsR r).length ∧ (wAt (partsR r) i).getLsbD a = true ∧ (wAt (partsR r) i).getLsbD b = true) ↔ Mu r a b := by
  constructor
  · rintro ⟨i, h1, h2, h3⟩
    exact (part_mu hr h1 h1 h2 h3).2 rfl
  · intro h
    obtain ⟨i, h1, h2⟩ := part_of hr ha
    obtain ⟨k, h3, h4⟩ := part_of hr hb
    have e := (part_mu hr h1 h3 h2 h4).1 h
    subst e
    exact ⟨i, h1, h2, h4⟩
end Go.Proofs.YtjmomgmbmgdeoaaDoor
