/-
  What package knot finds, in plain words: the least number of a set, the next number of an order, a walk that never leaves a set, the numbers that are tied to one. No condition.
-/
import Derived.Test.YtjmomgmbmgdeoaaDoorHKn
import Derived.Test.YtjmomgmbmgdeoaaDoorRank
namespace Go.Proofs.YtjmomgmbmgdeoaaDoor
set_option maxRecDepth 100000
set_option linter.unusedVariables false

/-! the least number of a set -/
def headW (s : Bv) : Nat := (nums s).headD 0
theorem nums_ix {s : Bv} {j n : Nat} (h : (nums s)[j]? = some n) : n < 64 ∧ s.getLsbD n = true ∧ cntTo s.getLsbD n = j := by
  have hj : j < cnt s := by
    rw [← nums_length]
    rcases Nat.lt_or_ge j (nums s).length with h' | h'
    · exact h'
    · rw [List.getElem?_eq_none h'] at h; cases h
  obtain ⟨m, h1, h2, h3, h4⟩ := nums_get s j hj
  rw [h] at h4
  cases h4
  exact ⟨h1, h2, h3⟩
theorem headW_of {s : Bv} {n : Nat} (h : (nums s)[0]? = some n) : headW s = n := by
  unfold headW
  cases hs : nums s with
  | nil => rw [hs] at h; cases h
  | cons a l => rw [hs] at h; injection h
theorem headW_least {s : Bv} {n : Nat} (h : Least s n) : headW s = n := by
  have := nums_at s n h.1 h.2.1
  rw [cntTo_none n h.2.2] at this
  exact headW_of this
theorem headW_zero : headW 0#64 = 0 := by
  unfold headW
  have : (nums 0#64).length = 0 := by rw [nums_length]; decide
  rw [List.length_eq_zero_iff.1 this]; rfl
theorem headW_bit {s : Bv} (h : s ≠ 0#64) : Least s (headW s) := by
  obtain ⟨k, hk⟩ := nonzero_iff.1 h
  have h64 := bit_lt hk
  have hc : 0 < cnt s := by
    have := cntTo_hit s.getLsbD h64 hk
    exact Nat.lt_of_le_of_lt (Nat.zero_le _) this
  obtain ⟨n, h1, h2, h3, h4⟩ := nums_get s 0 hc
  rw [headW_of h4]
  refine ⟨h1, h2, fun i hi => ?_⟩
  cases hb : s.getLsbD i
  · rfl
  · have := cntTo_hit s.getLsbD hi hb; omega
theorem headW_lt (s : Bv) : headW s < 64 := by
  by_cases h : s = 0#64
  · rw [h, headW_zero]; omega
  · exact (headW_bit h).1

/-! what is left -/
def leftR (r : List Bv) (s : Bv) : Bv := low r.length &&& ~~~s
theorem not_bit {s : Bv} {k : Nat} (hk : k < 64) : (~~~s).getLsbD k = true ↔ s.getLsbD k = false := by
  rw [BitVec.getLsbD_not]
  cases s.getLsbD k <;> simp [hk]
theorem leftR_bit {r : List Bv} (hl : r.length ≤ 64) {s : Bv} {k : Nat} : (leftR r s).getLsbD k = true ↔ k < r.length ∧ s.getLsbD k = false := by
  unfold leftR
  rw [and_bit]
  constructor
  · rintro ⟨h1, h2⟩
    have hk := bit_lt h1
    rw [low_bit _ k hk, decide_eq_true_iff] at h1
    exact ⟨h1, (not_bit hk).1 h2⟩
  · rintro ⟨h1, h2⟩
    have hk : k < 64 := by omega
    rw [low_bit _ k hk, decide_eq_true_iff]
    exact ⟨h1, (not_bit hk).2 h2⟩
theorem leftR_zero (r : List Bv) : leftR r 0#64 = low r.length := by
  unfold leftR
  refine bv_ext fun i hi => ?_
  rw [BitVec.getLsbD_and, BitVec.getLsbD_not, decide_eq_true hi]; simp
theorem leftR_one (r : List Bv) (s : Bv) (n : Nat) : leftR r s &&& ~~~one n = leftR r (s ||| one n) := by
  unfold leftR
  refine bv_ext fun i hi => ?_
  simp only [BitVec.getLsbD_and, BitVec.getLsbD_not, BitVec.getLsbD_or, hi]
  cases (low r.length).getLsbD i <;> cases s.getLsbD i <;> cases (one n).getLsbD i <;> rfl
theorem left_fit {r : List Bv} (hr : RowsIn r) {s : Bv} {i : Nat} : wAt r i &&& leftR r s = 0#64 ↔ wAt r i &&& ~~~s = 0#64 := by
  rw [le_iff, zero_iff]
  constructor
  · intro h k hk
    cases hs : s.getLsbD k
    · have hkl : k < r.length := by
        rcases Nat.lt_or_ge k r.length with h' | h'
        · exact h'
        · rw [hr.row i k h'] at hk; cases hk
      have h2 := h k
      have h3 := and_bit.2 ⟨hk, (leftR_bit hr.len).2 ⟨hkl, hs⟩⟩
      rw [h2] at h3; cases h3
    · rfl
  · intro h k
    cases hb : (wAt r i &&& leftR r s).getLsbD k
    · rfl
    · obtain ⟨h1, h2⟩ := and_bit.1 hb
      have := ((leftR_bit hr.len).1 h2).2
      rw [h k h1] at this; cases this
theorem fit_left {r : List Bv} (hr : RowsIn r) {s : Bv} {i : Nat} (hi : i < r.length) : fit r s i = true ↔ (leftR r s).getLsbD i = true ∧ wAt r i &&& leftR r s = 0#64 := by
  unfold fit
  rw [Bool.and_eq_true, Bool.not_eq_true', decide_eq_true_iff, left_fit hr, leftR_bit hr.len]
  constructor
  · rintro ⟨h1, h2⟩; exact ⟨⟨hi, h1⟩, h2⟩
  · rintro ⟨⟨_, h1⟩, h2⟩; exact ⟨h1, h2⟩
theorem next_yes {r : List Bv} (hr : RowsIn r) {s : Bv} {j n : Nat} (h : (nums (leftR r s))[j]? = some n) (h0 : wAt r n &&& leftR r s = 0#64)
    (hb : ∀ i m, i < j → (nums (leftR r s))[i]? = some m → wAt r m &&& leftR r s ≠ 0#64) : nextR r s = some n := by
  obtain ⟨h1, h2, h3⟩ := nums_ix h
  have hn := ((leftR_bit hr.len).1 h2).1
  refine nextR_mk hn ((fit_left hr hn).2 ⟨h2, h0⟩) fun k hk => ?_
  cases hf : fit r s k
  · rfl
  · obtain ⟨f1, f2⟩ := (fit_left hr (by omega)).1 hf
    have hh := cntTo_hit _ hk f1
    rw [h3] at hh
    exact absurd f2 (hb _ k hh (nums_at _ k (by omega) f1))
theorem next_no {r : List Bv} (hr : RowsIn r) {s : Bv} (hb : ∀ i m, i < cnt (leftR r s) → (nums (leftR r s))[i]? = some m → wAt r m &&& leftR r s ≠ 0#64) : nextR r s = none :=
  nextR_none fun k hk => by
    cases hf : fit r s k
    · rfl
    · obtain ⟨f1, f2⟩ := (fit_left hr hk).1 hf
      have h64 := bit_lt f1
      have hh := nums_at _ k h64 f1
      have hlt : cntTo (leftR r s).getLsbD k < cnt (leftR r s) := cntTo_hit (leftR r s).getLsbD h64 f1
      exact absurd f2 (hb _ k hlt hh)

/-! the order as far as it goes -/
structure Ot (r : List Bv) (m : Nat) (l : List Nat) : Prop where
  le : m ≤ r.length
  len : l.length = m
  eq : l = ordTo r m
theorem ot_zero (r : List Bv) : Ot r 0 [] := ⟨Nat.zero_le _, rfl, rfl⟩
theorem ot_next {r : List Bv} (hr : RowsIn r) {m n : Nat} {l : List Nat} (h : Ot r m l) (hn : nextR r (setL l) = some n) : Ot r (m + 1) (l ++ [n]) := by
  have e := ordTo_some (r := r) (m := m) (i := n) (by rw [← h.eq]; exact hn)
  have el : (l ++ [n]) = ordTo r (m + 1) := by rw [e, h.eq]
  have ll : (l ++ [n]).length = m + 1 := by rw [List.length_append, h.len]; rfl
  refine ⟨?_, ll, el⟩
  have := nodup_le (m := r.length) (ordTo_ordd hr (m + 1)).nd (ordTo_ordd hr (m + 1)).lt
  rw [← el, ll] at this
  exact this
theorem ot_stop {r : List Bv} {m : Nat} {l : List Nat} (h : Ot r m l) (hn : nextR r (setL l) = none) : l = ordR r := by
  have e := ordTo_stop (r := r) (m := m) (by rw [← h.eq]; exact hn) (r.length - m)
  have hle := h.le
  rw [h.eq, ← e]
  unfold ordR
  rw [show m + (r.length - m) = r.length by omega]
theorem ordd_left {r : List Bv} (hl : r.length ≤ 64) {l : List Nat} (h : Ordd r l) : leftR r (setL l) = 0#64 ↔ l.length = r.length := by
  constructor
  · intro h0
    rcases Nat.lt_or_ge l.length r.length with h' | h'
    · obtain ⟨n, h1, h2⟩ := miss h'
      have hb := (leftR_bit hl (s := setL l) (k := n)).2 ⟨h1, by
        cases hs : (setL l).getLsbD n
        · rfl
        · exact absurd ((setL_bit (by omega)).1 hs) h2⟩
      rw [h0] at hb; simp at hb
    · exact Nat.le_antisymm (nodup_le h.nd h.lt) h'
  · intro hlen
    refine zero_iff.2 fun k => ?_
    cases hb : (leftR r (setL l)).getLsbD k
    · rfl
    · obtain ⟨h1, h2⟩ := (leftR_bit hl).1 hb
      rw [(setL_bit (by omega)).2 (ordd_full h hlen h1)] at h2
      cases h2
theorem ord_next (r : List Bv) (hl : r.length ≤ 64) (h : (ordR r).length ≠ r.length) (hr : RowsIn r) : nextR r (setL (ordR r)) = none := by
  rcases ordTo_grow (r := r) r.length with h' | h'
  · exact absurd h' h
  · exact h'
/-- each number that is left needs one that is left -/
theorem left_needs {r : List Bv} (hr : RowsIn r) {s : Bv} (h : nextR r s = none) {k : Nat} (hk : (leftR r s).getLsbD k = true) : wAt r k &&& leftR r s ≠ 0#64 := fun h0 => by
  have hl := ((leftR_bit hr.len).1 hk).1
  have := nextR_no h hl
  rw [(fit_left hr hl).2 ⟨hk, h0⟩] at this
  cases this

/-! a walk in a set -/
structure Wi (r : List Bv) (s : Bv) (l : List Nat) (x : Nat) : Prop where
  mem : ∀ y ∈ l, s.getLsbD y = true
  at_ : s.getLsbD x = true
  nd : l.Nodup
  nx : ∀ i y z, l[i]? = some y → (l ++ [x])[i + 1]? = some z → (wAt r y).getLsbD z = true
theorem wi_start {r : List Bv} {s : Bv} (h : s ≠ 0#64) : Wi r s [] (headW s) := ⟨fun y h => (by cases h), (headW_bit h).2.1, List.nodup_nil, fun i y z h => (by simp at h)⟩
theorem wi_next {r : List Bv} {s : Bv} {l : List Nat} {x : Nat} (h : Wi r s l x) (hx : x ∉ l) (hn : wAt r x &&& s ≠ 0#64) : Wi r s (l ++ [x]) (headW (wAt r x &&& s)) := by
  have hb := and_bit.1 (headW_bit hn).2.1
  refine ⟨fun y hy => ?_, hb.2, ?_, fun i y z h1 h2 => ?_⟩
  · rcases List.mem_append.1 hy with h' | h'
    · exact h.mem y h'
    · rw [List.mem_singleton.1 h']; exact h.at_
  · rw [List.nodup_append]
    refine ⟨h.nd, by simp, fun a ha b hb' e => ?_⟩
    rw [List.mem_singleton.1 hb'] at e
    exact hx (e ▸ ha)
  · rcases Nat.lt_or_ge i l.length with h' | h'
    · have h1' : l[i]? = some y := by rw [List.getElem?_append_left h'] at h1; exact h1
      refine h.nx i y z h1' ?_
      rw [List.getElem?_append_left (by rw [List.length_append, List.length_singleton]; omega)] at h2
      exact h2
    · have hi : i = l.length := by
        rcases Nat.lt_or_ge i (l ++ [x]).length with h3 | h3
        · rw [List.length_append, List.length_singleton] at h3; omega
        · rw [List.getElem?_eq_none h3] at h1; cases h1
      subst hi
      rw [List.getElem?_append_right (Nat.le_refl _), Nat.sub_self] at h1
      rw [List.getElem?_append_right (by rw [List.length_append, List.length_singleton]; omega), List.length_append, List.length_singleton, Nat.sub_self] at h2
      injection h1 with h1
      injection h2 with h2
      rw [← h1, ← h2]; exact hb.1
theorem wi_len {r : List Bv} {s : Bv} {l : List Nat} {x : Nat} (h : Wi r s l x) : l.length ≤ 64 := nodup_le h.nd fun n hn => bit_lt (h.mem n hn)
theorem wi_lt {r : List Bv} {s : Bv} {l : List Nat} {x : Nat} (h : Wi r s l x) (hx : x ∉ l) : l.length < 64 := by
  have hn : (l ++ [x]).Nodup := by
    rw [List.nodup_append]
    refine ⟨h.nd, by simp, fun a ha b hb' e => ?_⟩
    rw [List.mem_singleton.1 hb'] at e
    exact hx (e ▸ ha)
  have := nodup_le (m := 64) hn fun n hn => by
    rcases List.mem_append.1 hn with h' | h'
    · exact bit_lt (h.mem n h')
    · rw [List.mem_singleton.1 h']; exact bit_lt h.at_
  rw [List.length_append, List.length_singleton] at this
  omega
theorem wi_ring {r : List Bv} {s : Bv} {l : List Nat} {x k : Nat} (hs : SetIn r.length s) (h : Wi r s l x) (hk : l[k]? = some x) : RingL r (l.drop k) := by
  have hkl : k < l.length := by
    rcases Nat.lt_or_ge k l.length with h' | h'
    · exact h'
    · rw [List.getElem?_eq_none h'] at hk; cases hk
  have ll : (l.drop k).length = l.length - k := List.length_drop
  refine ⟨by rw [ll]; omega, fun n hn => ?_, h.nd.sublist (List.drop_sublist k l), fun i n hi m hm => ?_⟩
  · have hb := h.mem n (List.mem_of_mem_drop hn)
    rcases Nat.lt_or_ge n r.length with h' | h'
    · exact h'
    · rw [hs n h'] at hb; cases hb
  · rw [List.getElem?_drop] at hi
    have hil : k + i < l.length := by
      rcases Nat.lt_or_ge (k + i) l.length with h' | h'
      · exact h'
      · rw [List.getElem?_eq_none h'] at hi; cases hi
    refine h.nx (k + i) n m hi ?_
    rw [ll] at hm
    rcases Nat.lt_or_ge (i + 1) (l.length - k) with h' | h'
    · rw [Nat.mod_eq_of_lt h', List.getElem?_drop] at hm
      rw [List.getElem?_append_left (by omega)]
      exact hm
    · have e : i + 1 = l.length - k := by omega
      rw [e, Nat.mod_self, List.getElem?_drop, Nat.add_zero, hk] at hm
      rw [List.getElem?_append_right (by omega), show k + i + 1 - l.length = 0 by omega]
      exact hm

/-! what is answered -/
noncomputable def ordC (r : List Bv) : Int := if ckR r ≠ 0 then ckR r else if (ordR r).length = r.length then 0 else 8
noncomputable def ordL (r : List Bv) : List Nat := if ordC r = 0 then ordR r else []
noncomputable def ringC (r : List Bv) : Int := if ckR r ≠ 0 then ckR r else if (ordR r).length = r.length then 5 else 0
theorem ordC_bad {r : List Bv} (h : ckR r ≠ 0) : ordC r = ckR r := by unfold ordC; rw [if_pos h]
theorem ordC_ok {r : List Bv} (h : ckR r = 0) (hl : (ordR r).length = r.length) : ordC r = 0 := by unfold ordC; rw [if_neg (by rw [h]; simp), if_pos hl]
theorem ordC_cyc {r : List Bv} (h : ckR r = 0) (hl : (ordR r).length ≠ r.length) : ordC r = 8 := by unfold ordC; rw [if_neg (by rw [h]; simp), if_neg hl]
theorem ringC_bad {r : List Bv} (h : ckR r ≠ 0) : ringC r = ckR r := by unfold ringC; rw [if_pos h]
theorem ringC_none {r : List Bv} (h : ckR r = 0) (hl : (ordR r).length = r.length) : ringC r = 5 := by unfold ringC; rw [if_neg (by rw [h]; simp), if_pos hl]
theorem ringC_ok {r : List Bv} (h : ckR r = 0) (hl : (ordR r).length ≠ r.length) : ringC r = 0 := by unfold ringC; rw [if_neg (by rw [h]; simp), if_neg hl]
theorem ordL_ok {r : List Bv} (h : ordC r = 0) : ordL r = ordR r := by unfold ordL; rw [if_pos h]
theorem ordL_bad {r : List Bv} (h : ordC r ≠ 0) : ordL r = [] := by unfold ordL; rw [if_neg h]
theorem ckR_or (r : List Bv) : ckR r = 0 ∨ ckR r = 2 ∨ ckR r = 4 := by
  unfold ckR ckS
  split
  · exact .inr (.inl rfl)
  · split
    · exact .inl rfl
    · exact .inr (.inr rfl)
theorem ordC_zero {r : List Bv} (h : ordC r = 0) : RowsIn r ∧ (ordR r).length = r.length := by
  by_cases hc : ckR r = 0
  · refine ⟨ckR_zero hc, ?_⟩
    by_cases hl : (ordR r).length = r.length
    · exact hl
    · rw [ordC_cyc hc hl] at h; cases h
  · rw [ordC_bad hc] at h; exact absurd h hc
theorem ordC_ring {r : List Bv} (h : ordC r ≠ 0) : ordC r = 8 ↔ ringC r = 0 := by
  by_cases hc : ckR r = 0
  · by_cases hl : (ordR r).length = r.length
    · exact absurd (ordC_ok hc hl) h
    · rw [ordC_cyc hc hl, ringC_ok hc hl]; simp
  · rw [ordC_bad hc, ringC_bad hc]
    constructor
    · intro h8; rcases ckR_or r with h' | h' | h' <;> omega
    · exact fun h0 => absurd h0 hc
theorem ordC_none {r : List Bv} (h : ordC r = 0) : ringC r = 5 := by
  obtain ⟨h1, h2⟩ := ordC_zero h
  exact ringC_none (ckR_rows h1) h2

/-! what is tied to a number -/
/-- the numbers of l whose row has n, and n -/
def tieL (c : List Bv) (n : Nat) (l : List Nat) : Bv := l.foldl (fun t k => if (wAt c k).getLsbD n then t ||| one k else t) (one n)
theorem tieL_snoc (c : List Bv) (n k : Nat) (l : List Nat) : tieL c n (l ++ [k]) = if (wAt c k).getLsbD n then tieL c n l ||| one k else tieL c n l := by
  unfold tieL; rw [List.foldl_append]; rfl
theorem tieL_take {c : List Bv} {n j k : Nat} {l : List Nat} (h : l[j]? = some k) : tieL c n (l.take (j + 1)) = if (wAt c k).getLsbD n then tieL c n (l.take j) ||| one k else tieL c n (l.take j) := by
  rw [List.take_add_one, h]
  exact tieL_snoc c n k _
theorem tieF_bit (c : List Bv) (n : Nat) {x : Nat} (hx : x < 64) : ∀ (l : List Nat) (u : Bv), ((l.foldl (fun t k => if (wAt c k).getLsbD n then t ||| one k else t) u).getLsbD x = true ↔ u.getLsbD x = true ∨ (x ∈ l ∧ (wAt c x).getLsbD n = true))
  | [], u => by simp
  | k :: l, u => by
    rw [List.foldl_cons, tieF_bit c n hx l]
    by_cases hk : (wAt c k).getLsbD n = true
    · rw [if_pos hk, or_bit, one_bit k x hx, decide_eq_true_iff, List.mem_cons]
      constructor
      · rintro ((h | rfl) | ⟨h1, h2⟩)
        · exact .inl h
        · exact .inr ⟨.inl rfl, hk⟩
        · exact .inr ⟨.inr h1, h2⟩
      · rintro (h | ⟨rfl | h1, h2⟩)
        · exact .inl (.inl h)
        · exact .inl (.inr rfl)
        · exact .inr ⟨h1, h2⟩
    · rw [if_neg hk, List.mem_cons]
      constructor
      · rintro (h | ⟨h1, h2⟩)
        · exact .inl h
        · exact .inr ⟨.inr h1, h2⟩
      · rintro (h | ⟨rfl | h1, h2⟩)
        · exact .inl h
        · exact absurd h2 hk
        · exact .inr ⟨h1, h2⟩
theorem mem_nums {s : Bv} {k : Nat} (hk : k < 64) : k ∈ nums s ↔ s.getLsbD k = true := by
  constructor
  · intro h
    obtain ⟨j, hj⟩ := List.getElem?_of_mem h
    exact (nums_ix hj).2.1
  · exact fun h => List.mem_of_getElem? (nums_at s k hk h)
theorem close_walk {r : List Bv} (hr : RowsIn r) {i k : Nat} (hi : i < r.length) (hne : i ≠ k) : (wAt (closeR r) i).getLsbD k = true ↔ Wk r i k := by
  rw [closeR_bit hr hi]
  constructor
  · rintro ⟨j, h1, h2⟩; exact .head h1 h2
  · intro h
    have aux : ∀ {a b : Nat}, Wk r a b → a = b ∨ ∃ j, (wAt r a).getLsbD j = true ∧ Wk r j b := by
      intro a b hw
      induction hw with
      | refl => exact .inl rfl
      | step h1 h2 ih =>
        rcases ih with rfl | ⟨j, j1, j2⟩
        · exact .inr ⟨_, h2, .refl _⟩
        · exact .inr ⟨j, j1, .step j2 h2⟩
    rcases aux h with h' | h'
    · exact absurd h' hne
    · exact h'
theorem tieL_tied {r : List Bv} (hr : RowsIn r) {n : Nat} (hn : n < r.length) : tieL (closeR r) n (nums (wAt (closeR r) n)) = tied r n := by
  refine bv_ext fun k hk => ?_
  rw [Bool.eq_iff_iff]
  unfold tieL
  rw [tieF_bit _ _ hk, mem_nums hk, one_bit n k hk, decide_eq_true_iff, tied_bit hr hn]
  constructor
  · rintro (rfl | ⟨h1, h2⟩)
    · exact Mu.refl r _
    · by_cases e : n = k
      · subst e; exact Mu.refl r _
      · have hw := (close_walk hr hn e).1 h1
        exact ⟨hw, (close_walk hr (wk_lt hr hw hn) (Ne.symm e)).1 h2⟩
  · intro h
    by_cases e : k = n
    · exact .inl e
    · refine .inr ⟨(close_walk hr hn (Ne.symm e)).2 h.1, (close_walk hr (wk_lt hr h.1 hn) e).2 h.2⟩
end Go.Proofs.YtjmomgmbmgdeoaaDoor
