/-
  Plain facts on graphs: edges as pairs of numbers in order, rows of sets, the edges of rows, the rows of edges, sets renumbered. No condition.
-/
import Derived.Test.YtjmomgmbmgdeoaaDoorNums
import Derived.Test.YtjmomgmbmgdeoaaDoorLs
namespace Go.Proofs.YtjmomgmbmgdeoaaDoor
set_option maxRecDepth 100000

theorem numsTo_mem (s : Bv) : ∀ m n, n ∈ numsTo s m ↔ n < m ∧ s.getLsbD n = true
  | 0, n => by simp [numsTo]
  | m + 1, n => by
    rw [numsTo]
    cases h : s.getLsbD m
    · rw [if_neg (by simp), numsTo_mem s m n]
      constructor
      · rintro ⟨a, b⟩; exact ⟨by omega, b⟩
      · rintro ⟨a, b⟩
        refine ⟨?_, b⟩
        by_cases e : n = m
        · subst e; rw [h] at b; cases b
        · omega
    · rw [if_pos rfl, List.mem_append, List.mem_singleton, numsTo_mem s m n]
      constructor
      · rintro (⟨a, b⟩ | rfl)
        · exact ⟨by omega, b⟩
        · exact ⟨by omega, h⟩
      · rintro ⟨a, b⟩
        by_cases e : n = m
        · exact .inr e
        · exact .inl ⟨by omega, b⟩
theorem nums_mem {s : Bv} {n : Nat} : n ∈ nums s ↔ n < 64 ∧ s.getLsbD n = true := numsTo_mem s 64 n
theorem numsTo_up (s : Bv) : ∀ m, (numsTo s m).Pairwise (· < ·)
  | 0 => List.Pairwise.nil
  | m + 1 => by
    rw [numsTo]
    split
    · refine List.pairwise_append.2 ⟨numsTo_up s m, List.pairwise_singleton _ _, fun a ha b hb => ?_⟩
      rw [List.mem_singleton] at hb; subst hb
      exact ((numsTo_mem s _ a).1 ha).1
    · exact numsTo_up s m
theorem nums_up (s : Bv) : (nums s).Pairwise (· < ·) := numsTo_up s 64
theorem nat_ext : ∀ {a b : List Nat}, a.Pairwise (· < ·) → b.Pairwise (· < ·) → (∀ x, x ∈ a ↔ x ∈ b) → a = b
  | [], [], _, _, _ => rfl
  | [], y :: _, _, _, h => absurd ((h y).2 (List.mem_cons_self ..)) List.not_mem_nil
  | x :: _, [], _, _, h => absurd ((h x).1 (List.mem_cons_self ..)) List.not_mem_nil
  | x :: a, y :: b, ha, hb, h => by
    obtain ⟨ha1, ha2⟩ := List.pairwise_cons.1 ha
    obtain ⟨hb1, hb2⟩ := List.pairwise_cons.1 hb
    have hxy : x = y := by
      rcases List.mem_cons.1 ((h x).1 (List.mem_cons_self ..)) with e | e
      · exact e
      · rcases List.mem_cons.1 ((h y).2 (List.mem_cons_self ..)) with e' | e'
        · exact e'.symm
        · have h1 := hb1 x e
          have h2 := ha1 y e'
          omega
    subst hxy
    rw [nat_ext ha2 hb2 fun z => ?_]
    constructor
    · intro hz
      rcases List.mem_cons.1 ((h z).1 (List.mem_cons_of_mem _ hz)) with e | e
      · subst e; have := ha1 z hz; omega
      · exact e
    · intro hz
      rcases List.mem_cons.1 ((h z).2 (List.mem_cons_of_mem _ hz)) with e | e
      · subst e; have := hb1 z hz; omega
      · exact e

/-! edges -/
abbrev Ed := Int × Int
def edLt (a b : Ed) : Prop := a.1 < b.1 ∨ a.1 = b.1 ∧ a.2 < b.2
def EdUp (l : List Ed) : Prop := l.Pairwise edLt
theorem edLt_irrefl (a : Ed) : ¬ edLt a a := fun h => by rcases h with h | ⟨_, h⟩ <;> omega
theorem edLt_trans {a b c : Ed} (h : edLt a b) (k : edLt b c) : edLt a c := by
  rcases h with h | ⟨h1, h2⟩ <;> rcases k with k | ⟨k1, k2⟩
  · exact .inl (by omega)
  · exact .inl (by omega)
  · exact .inl (by omega)
  · exact .inr ⟨by omega, by omega⟩
theorem ed_ext : ∀ {a b : List Ed}, EdUp a → EdUp b → (∀ x, x ∈ a ↔ x ∈ b) → a = b
  | [], [], _, _, _ => rfl
  | [], y :: _, _, _, h => absurd ((h y).2 (List.mem_cons_self ..)) List.not_mem_nil
  | x :: _, [], _, _, h => absurd ((h x).1 (List.mem_cons_self ..)) List.not_mem_nil
  | x :: a, y :: b, ha, hb, h => by
    obtain ⟨ha1, ha2⟩ := List.pairwise_cons.1 ha
    obtain ⟨hb1, hb2⟩ := List.pairwise_cons.1 hb
    have hxy : x = y := by
      rcases List.mem_cons.1 ((h x).1 (List.mem_cons_self ..)) with e | e
      · exact e
      · rcases List.mem_cons.1 ((h y).2 (List.mem_cons_self ..)) with e' | e'
        · exact e'.symm
        · exact absurd (edLt_trans (hb1 x e) (ha1 y e')) (edLt_irrefl _)
    subst hxy
    rw [ed_ext ha2 hb2 fun z => ?_]
    constructor
    · intro hz
      rcases List.mem_cons.1 ((h z).1 (List.mem_cons_of_mem _ hz)) with e | e
      · subst e; exact absurd (ha1 z hz) (edLt_irrefl _)
      · exact e
    · intro hz
      rcases List.mem_cons.1 ((h z).2 (List.mem_cons_of_mem _ hz)) with e | e
      · subst e; exact absurd (hb1 z hz) (edLt_irrefl _)
      · exact e
def EdIn (n : Nat) (l : List Ed) : Prop := ∀ x ∈ l, 0 ≤ x.1 ∧ x.1 < (n : Int) ∧ 0 ≤ x.2 ∧ x.2 < (n : Int)
def sw (x : Ed) : Ed := (x.2, x.1)
theorem EdIn.sw {n : Nat} {l : List Ed} (h : EdIn n l) : EdIn n (l.map sw) := fun x hx => by
  obtain ⟨y, hy, rfl⟩ := List.mem_map.1 hx
  obtain ⟨a, b, c, d⟩ := h y hy
  exact ⟨c, d, a, b⟩
theorem EdIn.take {n : Nat} {l : List Ed} (h : EdIn n l) (k : Nat) : EdIn n (l.take k) := fun x hx => h x (List.mem_of_mem_take hx)

/-! rows of sets -/
def wAt (r : List Bv) (i : Nat) : Bv := r.getD i 0#64
def orAt (r : List Bv) (i : Nat) (s : Bv) : List Bv := r.set i (wAt r i ||| s)
theorem orAt_length (r : List Bv) (i : Nat) (s : Bv) : (orAt r i s).length = r.length := List.length_set
theorem wAt_orAt (r : List Bv) (i j : Nat) (s : Bv) (hi : i < r.length) : wAt (orAt r i s) j = if j = i then wAt r i ||| s else wAt r j := by
  unfold orAt wAt
  rw [List.getD, List.getElem?_set]
  by_cases h : i = j
  · subst h; rw [if_pos rfl, if_pos hi, if_pos rfl]; rfl
  · rw [if_neg h, if_neg (fun e => h e.symm)]; rfl
def rowsFrom (r : List Bv) (es : List Ed) : List Bv := es.foldl (fun r e => orAt r e.1.toNat (one e.2.toNat)) r
def rowsTo (n : Nat) (es : List Ed) : List Bv := rowsFrom (List.replicate n 0#64) es
theorem rowsFrom_length : ∀ (es : List Ed) (r : List Bv), (rowsFrom r es).length = r.length
  | [], _ => rfl
  | e :: es, r => by
    show (rowsFrom (orAt r e.1.toNat (one e.2.toNat)) es).length = _
    rw [rowsFrom_length es, orAt_length]
theorem rowsTo_length (n : Nat) (es : List Ed) : (rowsTo n es).length = n := by unfold rowsTo; rw [rowsFrom_length, List.length_replicate]
theorem rowsTo_snoc (n : Nat) (es : List Ed) (x : Ed) : rowsTo n (es ++ [x]) = orAt (rowsTo n es) x.1.toNat (one x.2.toNat) := by
  unfold rowsTo rowsFrom; rw [List.foldl_append]; rfl
theorem rowsTo_nil (n : Nat) : rowsTo n [] = List.replicate n 0#64 := rfl
theorem rowsFrom_bit {n : Nat} : ∀ (es : List Ed) (r : List Bv), EdIn n es → n ≤ r.length → ∀ i k, k < 64 → ((wAt (rowsFrom r es) i).getLsbD k = true ↔ (wAt r i).getLsbD k = true ∨ ((i : Int), (k : Int)) ∈ es)
  | [], r, _, _, i, k, _ => by
    show (wAt r i).getLsbD k = true ↔ _
    simp
  | e :: es, r, h, hn, i, k, hk => by
    show (wAt (rowsFrom (orAt r e.1.toNat (one e.2.toNat)) es) i).getLsbD k = true ↔ _
    obtain ⟨h1, h2, h3, h4⟩ := h e (List.mem_cons_self ..)
    rw [rowsFrom_bit es _ (fun x hx => h x (List.mem_cons_of_mem _ hx)) (by rw [orAt_length]; exact hn) i k hk, wAt_orAt _ _ _ _ (by omega), List.mem_cons]
    by_cases hi : i = e.1.toNat
    · rw [if_pos hi, BitVec.getLsbD_or, one_bit _ k hk, Bool.or_eq_true, decide_eq_true_iff, or_assoc, ← hi]
      have : k = e.2.toNat ↔ ((i : Int), (k : Int)) = e := by
        constructor
        · intro hk; exact Prod.ext (by simp; omega) (by simp; omega)
        · intro he; rw [← he]; simp
      rw [this]
    · rw [if_neg hi]
      have : ((i : Int), (k : Int)) ≠ e := fun he => hi (by rw [← he]; simp)
      simp [this]
theorem wAt_replicate (n i : Nat) : wAt (List.replicate n 0#64) i = 0#64 := by
  unfold wAt
  rw [List.getD, List.getElem?_replicate]
  split <;> rfl
/-- a row of the edges' rows: what they say -/
theorem rowsTo_bit {n : Nat} {es : List Ed} (h : EdIn n es) (i k : Nat) (hk : k < 64) : (wAt (rowsTo n es) i).getLsbD k = true ↔ ((i : Int), (k : Int)) ∈ es := by
  unfold rowsTo
  rw [rowsFrom_bit es _ h (by rw [List.length_replicate]; exact Nat.le_refl _) i k hk, wAt_replicate]
  simp

/-! the edges of rows -/
def edgesAt (i : Nat) (s : Bv) : List Ed := (nums s).map fun k : Nat => ((i : Int), (k : Int))
def edgesTo (r : List Bv) (m : Nat) : List Ed := (List.range m).flatMap fun i => edgesAt i (wAt r i)
def edgesL (r : List Bv) : List Ed := edgesTo r r.length
theorem edgesTo_zero (r : List Bv) : edgesTo r 0 = [] := rfl
theorem edgesTo_succ (r : List Bv) (m : Nat) : edgesTo r (m + 1) = edgesTo r m ++ edgesAt m (wAt r m) := by
  unfold edgesTo
  rw [List.range_succ, List.flatMap_append]; simp
theorem edgesAt_mem {i : Nat} {s : Bv} {x : Ed} : x ∈ edgesAt i s ↔ ∃ k : Nat, k < 64 ∧ s.getLsbD k = true ∧ x = ((i : Int), (k : Int)) := by
  unfold edgesAt
  rw [List.mem_map]
  constructor
  · rintro ⟨k, hk, rfl⟩; exact ⟨k, (nums_mem.1 hk).1, (nums_mem.1 hk).2, rfl⟩
  · rintro ⟨k, h1, h2, rfl⟩; exact ⟨k, nums_mem.2 ⟨h1, h2⟩, rfl⟩
theorem edgesTo_mem {r : List Bv} : ∀ {m : Nat} {x : Ed}, x ∈ edgesTo r m ↔ ∃ i k : Nat, i < m ∧ k < 64 ∧ (wAt r i).getLsbD k = true ∧ x = ((i : Int), (k : Int))
  | 0, x => by rw [edgesTo_zero]; simp
  | m + 1, x => by
    rw [edgesTo_succ, List.mem_append, edgesTo_mem, edgesAt_mem]
    constructor
    · rintro (⟨i, k, h1, h2⟩ | ⟨k, h1⟩)
      · exact ⟨i, k, by omega, h2⟩
      · exact ⟨m, k, by omega, h1⟩
    · rintro ⟨i, k, h1, h2⟩
      by_cases e : i = m
      · subst e; exact .inr ⟨k, h2⟩
      · exact .inl ⟨i, k, by omega, h2⟩
theorem edgesTo_up (r : List Bv) : ∀ m, EdUp (edgesTo r m)
  | 0 => List.Pairwise.nil
  | m + 1 => by
    unfold EdUp
    rw [edgesTo_succ]
    refine List.pairwise_append.2 ⟨edgesTo_up r m, ?_, fun a ha b hb => ?_⟩
    · unfold edgesAt
      refine List.pairwise_map.2 ((nums_up _).imp fun h => .inr ⟨rfl, ?_⟩)
      simpa using h
    · obtain ⟨i, k, h1, _, _, rfl⟩ := edgesTo_mem.1 ha
      obtain ⟨j, _, _, rfl⟩ := edgesAt_mem.1 hb
      exact .inl (by simpa using h1)
theorem edgesL_up (r : List Bv) : EdUp (edgesL r) := edgesTo_up r _
theorem edgesTo_le (r : List Bv) : ∀ m, (edgesTo r m).length ≤ 64 * m
  | 0 => Nat.zero_le _
  | m + 1 => by
    rw [edgesTo_succ, List.length_append]
    have := edgesTo_le r m
    have h2 : (edgesAt m (wAt r m)).length ≤ 64 := by unfold edgesAt; rw [List.length_map, nums_length]; exact cnt_le _
    omega
theorem edgesL_in {r : List Bv} (h : ∀ i, i < r.length → ∀ k, r.length ≤ k → (wAt r i).getLsbD k = false) : EdIn r.length (edgesL r) := fun x hx => by
  obtain ⟨i, k, h1, h2, h3, rfl⟩ := edgesTo_mem.1 hx
  refine ⟨by simp, by simpa using h1, by simp, ?_⟩
  rcases Nat.lt_or_ge k r.length with h' | h'
  · simpa using h'
  · rw [h i h1 k h'] at h3; cases h3
/-- the edges of the rows of edges in order are these -/
theorem edges_rows {n : Nat} {es : List Ed} (h : EdIn n es) (hu : EdUp es) (hn : n ≤ 64) : edgesL (rowsTo n es) = es := by
  refine ed_ext (edgesL_up _) hu fun x => ?_
  unfold edgesL
  rw [edgesTo_mem, rowsTo_length]
  constructor
  · rintro ⟨i, k, h1, h2, h3, rfl⟩; exact (rowsTo_bit h i k h2).1 h3
  · intro hx
    obtain ⟨h1, h2, h3, h4⟩ := h x hx
    refine ⟨x.1.toNat, x.2.toNat, by omega, by omega, (rowsTo_bit h _ _ (by omega)).2 ?_, Prod.ext (by simp; omega) (by simp; omega)⟩
    have : (((x.1.toNat : Nat) : Int), ((x.2.toNat : Nat) : Int)) = x := Prod.ext (by simp; omega) (by simp; omega)
    rw [this]; exact hx
theorem edgesL_mem {r : List Bv} {i k : Nat} : (((i : Int), (k : Int)) ∈ edgesL r) ↔ i < r.length ∧ k < 64 ∧ (wAt r i).getLsbD k = true := by
  unfold edgesL
  rw [edgesTo_mem]
  constructor
  · rintro ⟨i', k', h1, h2, h3, e⟩
    have e1 : i = i' := by have h : (i : Int) = (i' : Int) := congrArg Prod.fst e; omega
    have e2 : k = k' := by have h : (k : Int) = (k' : Int) := congrArg Prod.snd e; omega
    subst e1 e2
    exact ⟨h1, h2, h3⟩
  · rintro ⟨h1, h2, h3⟩; exact ⟨i, k, h1, h2, h3, rfl⟩

/-! renumbered -/
def orAll (s u : Bv) (l : List Nat) : Bv := l.foldl (fun u n => u ||| one (cntTo s.getLsbD n)) u
def renum (t s : Bv) : Bv := orAll s 0#64 (nums (t &&& s))
theorem orAll_snoc (s u : Bv) (l : List Nat) (n : Nat) : orAll s u (l ++ [n]) = orAll s u l ||| one (cntTo s.getLsbD n) := by
  unfold orAll; rw [List.foldl_append]; rfl
theorem orAll_bit (s : Bv) : ∀ (l : List Nat) (u : Bv) (i : Nat), i < 64 → ((orAll s u l).getLsbD i = true ↔ u.getLsbD i = true ∨ ∃ n ∈ l, cntTo s.getLsbD n = i)
  | [], u, i, _ => by
    show u.getLsbD i = true ↔ _
    simp
  | n :: l, u, i, hi => by
    show (orAll s (u ||| one (cntTo s.getLsbD n)) l).getLsbD i = true ↔ _
    rw [orAll_bit s l _ i hi, BitVec.getLsbD_or, one_bit _ i hi, Bool.or_eq_true, decide_eq_true_iff]
    constructor
    · rintro ((h | h) | ⟨m, h1, h2⟩)
      · exact .inl h
      · exact .inr ⟨n, List.mem_cons_self .., h.symm⟩
      · exact .inr ⟨m, List.mem_cons_of_mem _ h1, h2⟩
    · rintro (h | ⟨m, h1, h2⟩)
      · exact .inl (.inl h)
      · rcases List.mem_cons.1 h1 with rfl | h1
        · exact .inl (.inr h2.symm)
        · exact .inr ⟨m, h1, h2⟩
theorem renum_bit (t s : Bv) (i : Nat) : (renum t s).getLsbD i = true ↔ ∃ n, n < 64 ∧ t.getLsbD n = true ∧ s.getLsbD n = true ∧ cntTo s.getLsbD n = i := by
  rcases Nat.lt_or_ge i 64 with hi | hi
  · unfold renum
    rw [orAll_bit s _ _ i hi]
    constructor
    · rintro (h | ⟨n, h1, h2⟩)
      · simp at h
      · obtain ⟨h3, h4⟩ := nums_mem.1 h1
        rw [BitVec.getLsbD_and, Bool.and_eq_true] at h4
        exact ⟨n, h3, h4.1, h4.2, h2⟩
    · rintro ⟨n, h1, h2, h3, h4⟩
      exact .inr ⟨n, nums_mem.2 ⟨h1, by rw [BitVec.getLsbD_and, h2, h3]; rfl⟩, h4⟩
  · rw [bit_ge _ hi]
    constructor
    · intro h; cases h
    · rintro ⟨n, h1, _, h3, h4⟩
      have := cntTo_hit s.getLsbD h1 h3
      have := cnt_le s
      unfold cnt at this
      omega
theorem renum_at (t s : Bv) {n : Nat} (hs : s.getLsbD n = true) : (renum t s).getLsbD (cntTo s.getLsbD n) = t.getLsbD n := by
  have hn : n < 64 := by
    rcases Nat.lt_or_ge n 64 with h | h
    · exact h
    · rw [bit_ge s h] at hs; cases hs
  rw [Bool.eq_iff_iff, renum_bit]
  constructor
  · rintro ⟨m, _, h2, h3, h4⟩
    rw [← cntTo_inj _ h3 hs h4]; exact h2
  · intro h; exact ⟨n, hn, h, hs, rfl⟩
theorem renum_high (t s : Bv) {i : Nat} (h : cnt s ≤ i) : (renum t s).getLsbD i = false := by
  cases hc : (renum t s).getLsbD i
  · rfl
  · obtain ⟨n, h1, _, h3, h4⟩ := (renum_bit t s i).1 hc
    have := cntTo_hit s.getLsbD h1 h3
    unfold cnt at h
    omega
/-- how many of the renumbered set are below a rank -/
theorem renum_rank (t s : Bv) : ∀ n, cntTo (renum t s).getLsbD (cntTo s.getLsbD n) = cntTo (s &&& t).getLsbD n
  | 0 => rfl
  | n + 1 => by
    rw [cntTo_succ s.getLsbD, cntTo_succ (s &&& t).getLsbD, BitVec.getLsbD_and]
    cases hs : s.getLsbD n
    · simp [renum_rank t s n]
    · rw [if_pos rfl, cntTo_succ, renum_at t s hs, renum_rank t s n, Bool.true_and]

/-! graphs -/
structure Gr where
  ns : List Str
  es : List Ed
  ph : Bv
  md : Bv
def SetIn (n : Nat) (s : Bv) : Prop := ∀ i, n ≤ i → s.getLsbD i = false
theorem setIn_or {n : Nat} {s t : Bv} (h : SetIn n (s ||| t)) : SetIn n s ∧ SetIn n t := by
  constructor
  · intro i hi
    have := h i hi
    rw [BitVec.getLsbD_or, Bool.or_eq_false_iff] at this
    exact this.1
  · intro i hi
    have := h i hi
    rw [BitVec.getLsbD_or, Bool.or_eq_false_iff] at this
    exact this.2
theorem setIn_mk {n : Nat} {s t : Bv} (h1 : SetIn n s) (h2 : SetIn n t) : SetIn n (s ||| t) := fun i hi => by
  rw [BitVec.getLsbD_or, h1 i hi, h2 i hi]; rfl
theorem setIn_iff {n : Nat} {s : Bv} : SetIn n s ↔ s &&& ~~~low n = 0#64 := by
  constructor
  · intro h
    refine bv_ext fun i hi => ?_
    rw [BitVec.getLsbD_and, BitVec.getLsbD_not, low_bit n i hi]
    by_cases hi' : i < n
    · simp [hi']
    · rw [h i (by omega)]; simp
  · intro h i hi
    rcases Nat.lt_or_ge i 64 with h' | h'
    · have : (s &&& ~~~low n).getLsbD i = (0#64).getLsbD i := by rw [h]
      rw [BitVec.getLsbD_and, BitVec.getLsbD_not, low_bit n i h'] at this
      have e : decide (i < n) = false := decide_eq_false (by omega)
      rw [e] at this
      simpa [h'] using this
    · exact bit_ge s h'
def turnG (g : Gr) : Gr := ⟨g.ns, edgesL (rowsTo g.ns.length (g.es.map sw)), g.ph, g.md⟩
def partG (g : Gr) (s : Bv) : Gr := ⟨(nums s).map fun n => g.ns.getD n [], edgesL ((nums s).map fun n => renum (wAt (rowsTo g.ns.length g.es) n) s), renum g.ph s, renum g.md s⟩
end Go.Proofs.YtjmomgmbmgdeoaaDoor
