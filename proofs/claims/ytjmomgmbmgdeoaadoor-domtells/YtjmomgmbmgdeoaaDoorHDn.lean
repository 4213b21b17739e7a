/-
  Dominators in plain words: walks that pass only some numbers, what every walk passes (a partial order, in which the dominators of one number stand in a row), rows without a number. No condition.
-/
import Derived.Test.YtjmomgmbmgdeoaaDoorHKd
import Derived.Test.YtjmomgmbmgdeoaaDoorHKn
namespace Go.Proofs.YtjmomgmbmgdeoaaDoor
set_option maxRecDepth 100000
set_option linter.unusedVariables false

/-- a walk all of whose numbers are in P -/
inductive Wp (r : List Bv) (P : Nat → Prop) : Nat → Nat → Prop
  | refl (a : Nat) (h : P a) : Wp r P a a
  | step {a b c : Nat} : Wp r P a b → (wAt r b).getLsbD c = true → P c → Wp r P a c
theorem Wp.wk {r : List Bv} {P : Nat → Prop} {a b : Nat} (h : Wp r P a b) : Wk r a b := by
  induction h with
  | refl _ => exact .refl _
  | step _ k _ ih => exact .step ih k
theorem Wp.mono {r : List Bv} {P Q : Nat → Prop} (hPQ : ∀ n, P n → Q n) {a b : Nat} (h : Wp r P a b) : Wp r Q a b := by
  induction h with
  | refl h => exact .refl _ (hPQ _ h)
  | step _ k h ih => exact .step ih k (hPQ _ h)
theorem Wp.start {r : List Bv} {P : Nat → Prop} {a b : Nat} (h : Wp r P a b) : P a := by
  induction h with
  | refl h => exact h
  | step _ _ _ ih => exact ih
theorem Wp.stop {r : List Bv} {P : Nat → Prop} {a b : Nat} (h : Wp r P a b) : P b := by
  cases h with
  | refl h => exact h
  | step _ _ h => exact h
theorem Wp.trans {r : List Bv} {P : Nat → Prop} {a b c : Nat} (h : Wp r P a b) (k : Wp r P b c) : Wp r P a c := by
  induction k with
  | refl => exact h
  | step _ e h' ih => exact .step ih e h'
/-- a walk that keeps from x -/
def Av (r : List Bv) (x a b : Nat) : Prop := Wp r (· ≠ x) a b
/-- a walk keeps from x, or comes to x and from x on -/
theorem av_or {r : List Bv} (x : Nat) {a b : Nat} (h : Wk r a b) : Av r x a b ∨ (Wk r a x ∧ Wk r x b) := by
  induction h with
  | refl =>
    by_cases e : a = x
    · subst e; exact .inr ⟨.refl a, .refl a⟩
    · exact .inl (.refl a e)
  | @step b c h k ih =>
    rcases ih with h1 | ⟨h1, h2⟩
    · by_cases e : c = x
      · subst e; exact .inr ⟨.step h k, .refl c⟩
      · exact .inl (.step h1 k e)
    · exact .inr ⟨h1, .step h2 k⟩
/-- the first of two that a walk comes to -/
theorem first_of {r : List Bv} {x y : Nat} (hxy : x ≠ y) {a b : Nat} (h : Wk r a b) : Wp r (fun n => n ≠ x ∧ n ≠ y) a b ∨ Av r y a x ∨ Av r x a y := by
  induction h with
  | refl =>
    by_cases ex : a = x
    · subst ex; exact .inr (.inl (.refl a hxy))
    · by_cases ey : a = y
      · subst ey; exact .inr (.inr (.refl a ex))
      · exact .inl (.refl a ⟨ex, ey⟩)
  | @step b c h k ih =>
    rcases ih with h1 | h1
    · by_cases ex : c = x
      · subst ex; exact .inr (.inl (.step (h1.mono fun n hn => hn.2) k hxy))
      · by_cases ey : c = y
        · subst ey; exact .inr (.inr (.step (h1.mono fun n hn => hn.1) k ex))
        · exact .inl (.step h1 k ⟨ex, ey⟩)
    · exact .inr h1
/-- the last of two that a walk comes to -/
theorem last_of {r : List Bv} {x y : Nat} (hxy : x ≠ y) {a b : Nat} (h : Wk r a b) : Wp r (fun n => n ≠ x ∧ n ≠ y) a b ∨ Av r y x b ∨ Av r x y b := by
  induction h with
  | refl =>
    by_cases ex : a = x
    · subst ex; exact .inr (.inl (.refl a hxy))
    · by_cases ey : a = y
      · subst ey; exact .inr (.inr (.refl a ex))
      · exact .inl (.refl a ⟨ex, ey⟩)
  | @step b c h k ih =>
    by_cases ex : c = x
    · subst ex; exact .inr (.inl (.refl c hxy))
    · by_cases ey : c = y
      · subst ey; exact .inr (.inr (.refl c ex))
      · rcases ih with h1 | h1 | h1
        · exact .inl (.step h1 k ⟨ex, ey⟩)
        · exact .inr (.inl (.step h1 k ey))
        · exact .inr (.inr (.step h1 k ex))

/-! dominance -/
/-- every walk from o to b passes a, and there is one -/
def Dm (r : List Bv) (o a b : Nat) : Prop := Wk r o b ∧ ¬ Av r a o b
theorem Dm.root {r : List Bv} {o b : Nat} (h : Wk r o b) : Dm r o o b := ⟨h, fun k => k.start rfl⟩
theorem Dm.refl {r : List Bv} {o b : Nat} (h : Wk r o b) : Dm r o b b := ⟨h, fun k => k.stop rfl⟩
theorem Dm.on {r : List Bv} {o a b : Nat} (h : Dm r o a b) : Wk r o a ∧ Wk r a b := by
  rcases av_or a h.1 with h1 | h1
  · exact absurd h1 h.2
  · exact h1
theorem Dm.trans {r : List Bv} {o a b c : Nat} (h : Dm r o a b) (k : Dm r o b c) : Dm r o a c := by
  refine ⟨k.1, fun hc => ?_⟩
  by_cases e : a = b
  · subst e; exact k.2 hc
  · -- a walk to c that keeps from a: its first part, up to b, keeps from a too
    have : ∀ {d}, Wp r (· ≠ a) o d → Av r b o d ∨ Av r a o b := fun {d} hd => by
      induction hd with
      | refl h0 =>
        by_cases e2 : o = b
        · subst e2; exact .inr (.refl _ h0)
        · exact .inl (.refl _ e2)
      | @step d f hd' kb h0 ih =>
        rcases ih with h1 | h1
        · by_cases e2 : f = b
          · subst e2; exact .inr (.step hd' kb h0)
          · exact .inl (.step h1 kb e2)
        · exact .inr h1
    rcases this hc with h1 | h1
    · exact k.2 h1
    · exact h.2 h1
theorem Dm.anti {r : List Bv} {o a b : Nat} (h : Dm r o a b) (k : Dm r o b a) : a = b := by
  refine Classical.byContradiction fun hab => ?_
  rcases first_of hab h.1 with h1 | h1 | h1
  · exact h1.stop.2 rfl
  · exact k.2 h1
  · exact h.2 h1
theorem Dm.total {r : List Bv} {o a b c : Nat} (h : Dm r o a c) (k : Dm r o b c) : Dm r o a b ∨ Dm r o b a := by
  by_cases hab : a = b
  · subst hab; exact .inl (.refl h.on.1)
  · refine Classical.byContradiction fun hn => ?_
    have n1 : Av r a o b := Classical.byContradiction fun hx => hn (.inl ⟨k.on.1, hx⟩)
    have n2 : Av r b o a := Classical.byContradiction fun hx => hn (.inr ⟨h.on.1, hx⟩)
    rcases last_of hab h.1 with h1 | h1 | h1
    · exact h.2 (h1.mono fun n hn => hn.1)
    · exact k.2 (Wp.trans n2 h1)
    · exact h.2 (Wp.trans n1 h1)

/-! rows without a number -/
def outR (r : List Bv) (x : Nat) : List Bv := (List.range r.length).map fun i => if i = x then 0#64 else wAt r i &&& ~~~one x
theorem outR_length (r : List Bv) (x : Nat) : (outR r x).length = r.length := by unfold outR; rw [List.length_map, List.length_range]
theorem outR_at {r : List Bv} {x i : Nat} (h : i < r.length) : wAt (outR r x) i = if i = x then 0#64 else wAt r i &&& ~~~one x := by
  unfold wAt outR
  rw [List.getD, List.getElem?_map, List.getElem?_range h]; rfl
theorem outR_bit {r : List Bv} {x i k : Nat} (hx : x < 64) : (wAt (outR r x) i).getLsbD k = true ↔ i ≠ x ∧ k ≠ x ∧ (wAt r i).getLsbD k = true := by
  rcases Nat.lt_or_ge i r.length with hi | hi
  · rw [outR_at hi]
    by_cases e : i = x
    · rw [if_pos e]
      constructor
      · intro h; simp at h
      · rintro ⟨h, _⟩; exact absurd e h
    · rw [if_neg e, and_bit]
      constructor
      · rintro ⟨h1, h2⟩
        refine ⟨e, fun hk => ?_, h1⟩
        subst hk
        rw [BitVec.getLsbD_not, one_has hx] at h2
        simp at h2
      · rintro ⟨_, h1, h2⟩
        refine ⟨h2, ?_⟩
        rw [BitVec.getLsbD_not, decide_eq_true (bit_lt h2), Bool.true_and]
        cases hb : (one x).getLsbD k
        · rfl
        · exact absurd (one_is hb) h1
  · rw [wAt_ge (by rw [outR_length]; exact hi), wAt_ge hi]; simp
theorem outR_in {r : List Bv} (hr : RowsIn r) {x : Nat} (hx : x < 64) : RowsIn (outR r x) := by
  refine ⟨by rw [outR_length]; exact hr.len, fun i k hk => ?_⟩
  rw [outR_length] at hk
  cases hb : (wAt (outR r x) i).getLsbD k
  · rfl
  · have := (outR_bit hx).1 hb
    rw [hr.row i k hk] at this
    exact absurd this.2.2 (by simp)
theorem out_walk {r : List Bv} {x a b : Nat} (hx : x < 64) (ha : a ≠ x) : Wk (outR r x) a b ↔ Av r x a b := by
  constructor
  · intro h
    induction h with
    | refl => exact .refl _ ha
    | step _ k ih => exact .step ih ((outR_bit hx).1 k).2.2 ((outR_bit hx).1 k).2.1
  · intro h
    induction h with
    | refl => exact .refl _
    | step h k hc ih => exact .step ih ((outR_bit hx).2 ⟨h.stop, hc, k⟩)
/-- dominance by taking a number away -/
theorem dm_out {r : List Bv} (hr : RowsIn r) {o a b : Nat} (ho : o < r.length) (ha : a < r.length) :
    Dm r o a b ↔ (allR r (one o)).getLsbD b = true ∧ (a = o ∨ (allR (outR r a) (one o)).getLsbD b = false) := by
  have hl := hr.len
  rw [all_one hr ho]
  constructor
  · rintro ⟨h1, h2⟩
    refine ⟨h1, ?_⟩
    by_cases e : a = o
    · exact .inl e
    · refine .inr ?_
      cases hb : (allR (outR r a) (one o)).getLsbD b
      · rfl
      · rw [all_one (outR_in hr (by omega)) (by rw [outR_length]; exact ho), out_walk (by omega) (Ne.symm e)] at hb
        exact absurd hb h2
  · rintro ⟨h1, h2⟩
    refine ⟨h1, fun hv => ?_⟩
    rcases h2 with e | h2
    · exact hv.start e.symm
    · have : (allR (outR r a) (one o)).getLsbD b = true := by
        rw [all_one (outR_in hr (by omega)) (by rw [outR_length]; exact ho), out_walk (by omega) hv.start]; exact hv
      rw [h2] at this; cases this

/-! the dominators of a number -/
noncomputable def domS (r : List Bv) (o n : Nat) : Bv := setTo (fun a => @decide (Dm r o a n) (Classical.propDecidable _)) r.length
theorem dm_lt {r : List Bv} (hr : RowsIn r) {o a b : Nat} (ho : o < r.length) (h : Dm r o a b) : a < r.length := wk_lt hr h.on.1 ho
theorem domS_bit {r : List Bv} (hr : RowsIn r) {o n a : Nat} (ho : o < r.length) : (domS r o n).getLsbD a = true ↔ Dm r o a n := by
  have hl := hr.len
  unfold domS
  constructor
  · intro h
    rw [setTo_bit _ (bit_lt h)] at h
    exact @of_decide_eq_true _ (Classical.propDecidable _) h.2
  · intro h
    have := dm_lt hr ho h
    rw [setTo_bit _ (by omega)]
    exact ⟨this, @decide_eq_true _ (Classical.propDecidable _) h⟩
theorem domS_none {r : List Bv} (hr : RowsIn r) {o n : Nat} (ho : o < r.length) (h : ¬ Wk r o n) : domS r o n = 0#64 := zero_iff.2 fun k => by
  cases hb : (domS r o n).getLsbD k
  · rfl
  · exact absurd ((domS_bit hr ho).1 hb).1 h
theorem domS_le {r : List Bv} (hr : RowsIn r) {o a b : Nat} (ho : o < r.length) (h : Dm r o a b) : Le (domS r o a) (domS r o b) := fun k hk => (domS_bit hr ho).2 (((domS_bit hr ho).1 hk).trans h)
theorem domS_less {r : List Bv} (hr : RowsIn r) {o a b : Nat} (ho : o < r.length) (h : Dm r o a b) (hab : a ≠ b) : cnt (domS r o a) < cnt (domS r o b) :=
  cnt_less (domS_le hr ho h) fun e => hab (h.anti ((domS_bit hr ho).1 (by rw [e]; exact (domS_bit hr ho).2 (.refl h.1))))
theorem dm_of_less {r : List Bv} (hr : RowsIn r) {o a b n : Nat} (ho : o < r.length) (ha : Dm r o a n) (hb : Dm r o b n) (h : cnt (domS r o a) ≤ cnt (domS r o b)) : Dm r o a b := by
  rcases ha.total hb with h1 | h1
  · exact h1
  · by_cases e : b = a
    · subst e; exact h1
    · have := domS_less hr ho h1 e
      omega

/-! the dominators of a number, root first -/
/-- a list of all the dominators of n, each of which dominates the next ones -/
structure OverL (r : List Bv) (o n : Nat) (l : List Nat) : Prop where
  mem : ∀ a, a ∈ l ↔ Dm r o a n
  up : l.Pairwise fun a b => a ≠ b ∧ Dm r o a b
theorem OverL.nd {r : List Bv} {o n : Nat} {l : List Nat} (h : OverL r o n l) : l.Nodup := h.up.imp fun hab => hab.1
theorem over_ext {r : List Bv} {o : Nat} : ∀ {a b : List Nat}, (a.Pairwise fun x y => x ≠ y ∧ Dm r o x y) → (b.Pairwise fun x y => x ≠ y ∧ Dm r o x y) → (∀ x, x ∈ a ↔ x ∈ b) → a = b
  | [], [], _, _, _ => rfl
  | [], y :: _, _, _, h => absurd ((h y).2 (List.mem_cons_self ..)) List.not_mem_nil
  | x :: _, [], _, _, h => absurd ((h x).1 (List.mem_cons_self ..)) List.not_mem_nil
  | x :: a, y :: b, ha, hb, h => by
    obtain ⟨ha1, ha2⟩ := List.pairwise_cons.1 ha
    obtain ⟨hb1, hb2⟩ := List.pairwise_cons.1 hb
    have hxy : x = y := by
      rcases List.mem_cons.1 ((h x).1 (List.mem_cons_self ..)) with e | e
      · exact e
      · rcases List.mem_cons.1 ((h y).2 (List.mem_cons_self ..)) with e' | e'
        · exact e'.symm
        · exact ((ha1 y e').2).anti (hb1 x e).2
    subst hxy
    congr 1
    refine over_ext ha2 hb2 fun z => ⟨fun hz => ?_, fun hz => ?_⟩
    · rcases List.mem_cons.1 ((h z).1 (List.mem_cons_of_mem _ hz)) with e | e
      · subst e; exact absurd rfl (ha1 z hz).1
      · exact e
    · rcases List.mem_cons.1 ((h z).2 (List.mem_cons_of_mem _ hz)) with e | e
      · subst e; exact absurd rfl (hb1 z hz).1
      · exact e
theorem OverL.ext {r : List Bv} {o n : Nat} {l l' : List Nat} (h : OverL r o n l) (h' : OverL r o n l') : l = l' := over_ext h.up h'.up fun x => (h.mem x).trans (h'.mem x).symm
theorem over_none {r : List Bv} {o n : Nat} (h : ¬ Wk r o n) : OverL r o n [] := ⟨fun a => ⟨fun k => absurd k List.not_mem_nil, fun k => absurd k.1 h⟩, List.Pairwise.nil⟩
theorem over_root {r : List Bv} {o : Nat} : OverL r o o [o] := ⟨fun a => by
  rw [List.mem_singleton]
  exact ⟨fun e => by subst e; exact .refl (.refl _), fun h => h.anti (.root h.on.1)⟩, List.pairwise_singleton ..⟩
/-- the immediate dominator of n: m -/
structure Idom (r : List Bv) (o n m : Nat) : Prop where
  dm : Dm r o m n
  ne : m ≠ n
  low : ∀ a, Dm r o a n → a ≠ n → Dm r o a m
theorem Idom.one {r : List Bv} {o n m m' : Nat} (h : Idom r o n m) (h' : Idom r o n m') : m = m' := (h'.low m h.dm h.ne).anti (h.low m' h'.dm h'.ne)
theorem Idom.not_root {r : List Bv} {o m : Nat} (h : Idom r o o m) : False := h.ne (h.dm.anti (.root h.dm.on.1))
theorem Idom.snoc {r : List Bv} {o n m : Nat} {l : List Nat} (h : Idom r o n m) (hl : OverL r o m l) : OverL r o n (l ++ [n]) := by
  refine ⟨fun a => ?_, ?_⟩
  · rw [List.mem_append, List.mem_singleton, hl.mem]
    constructor
    · rintro (k | k)
      · exact k.trans h.dm
      · subst k; exact .refl h.dm.1
    · intro k
      by_cases e : a = n
      · exact .inr e
      · exact .inl (h.low a k e)
  · rw [List.pairwise_append]
    refine ⟨hl.up, List.pairwise_singleton .., fun a ha b hb => ?_⟩
    rw [List.mem_singleton] at hb
    subst hb
    have k := (hl.mem a).1 ha
    exact ⟨fun e => h.ne (by subst e; exact h.dm.anti k), k.trans h.dm⟩
theorem over_end {r : List Bv} {o n : Nat} {l : List Nat} (h : OverL r o n l) (hn : Wk r o n) : ∃ l', l = l' ++ [n] := by
  have hm := (h.mem n).2 (.refl hn)
  obtain ⟨a, b, rfl⟩ := List.append_of_mem hm
  cases b with
  | nil => exact ⟨a, rfl⟩
  | cons x b =>
    exfalso
    have h1 := (List.pairwise_append.1 h.up).2.1
    have h2 := (List.pairwise_cons.1 h1).1 x (List.mem_cons_self ..)
    have h3 := (h.mem x).1 (by simp)
    exact h2.1 (h2.2.anti h3)
/-- the last but one is the immediate dominator -/
theorem over_idom {r : List Bv} {o n m : Nat} {l : List Nat} (h : OverL r o n (l ++ [m, n])) : Idom r o n m := by
  have h1 := List.pairwise_append.1 h.up
  have h2 := List.pairwise_cons.1 h1.2.1
  have h3 := h2.1 n (by simp)
  refine ⟨h3.2, h3.1, fun a ha hne => ?_⟩
  have hm := (h.mem a).2 ha
  rw [List.mem_append] at hm
  rcases hm with k | k
  · exact (h1.2.2 a k m (by simp)).2
  · rcases List.mem_cons.1 k with e | k
    · subst e; exact .refl h3.2.on.1
    · rw [List.mem_singleton] at k
      exact absurd k hne
theorem idom_some {r : List Bv} (hr : RowsIn r) {o n : Nat} (ho : o < r.length) (hn : Wk r o n) (hne : n ≠ o) : ∃ m, Idom r o n m := by
  -- of the dominators other than n one with most dominators
  have key : ∀ c, (∃ m, Dm r o m n ∧ m ≠ n ∧ c ≤ cnt (domS r o m)) → ∃ m, Idom r o n m := by
    intro c
    generalize hd : 64 - c = d
    induction d generalizing c with
    | zero =>
      rintro ⟨m, h1, h2, h3⟩
      refine ⟨m, h1, h2, fun a ha hna => dm_of_less hr ho ha h1 ?_⟩
      have := cntTo_le (domS r o a).getLsbD 64
      have : cnt (domS r o a) ≤ 64 := this
      omega
    | succ d ih =>
      rintro ⟨m, h1, h2, h3⟩
      by_cases hx : ∃ a, Dm r o a n ∧ a ≠ n ∧ cnt (domS r o m) < cnt (domS r o a)
      · obtain ⟨a, k1, k2, k3⟩ := hx
        exact ih (c + 1) (by omega) ⟨a, k1, k2, by omega⟩
      · refine ⟨m, h1, h2, fun a ha hna => dm_of_less hr ho ha h1 ?_⟩
        exact Nat.le_of_not_lt fun hlt => hx ⟨a, ha, hna, hlt⟩
  exact key 0 ⟨o, .root hn, Ne.symm hne, Nat.zero_le _⟩
theorem over_some {r : List Bv} (hr : RowsIn r) {o : Nat} (ho : o < r.length) (n : Nat) : ∃ l, OverL r o n l := by
  generalize hc : cnt (domS r o n) = c
  induction c using Nat.strongRecOn generalizing n with
  | ind c ih =>
    by_cases hn : Wk r o n
    · by_cases e : n = o
      · subst e; exact ⟨_, over_root⟩
      · obtain ⟨m, hm⟩ := idom_some hr ho hn e
        obtain ⟨l, hl⟩ := ih _ (by rw [← hc]; exact domS_less hr ho hm.dm hm.ne) m rfl
        exact ⟨_, hm.snoc hl⟩
    · exact ⟨[], over_none hn⟩
open Classical in
noncomputable def overR (r : List Bv) (o n : Nat) : List Nat := if h : ∃ l, OverL r o n l then h.choose else []
theorem overR_ok {r : List Bv} (hr : RowsIn r) {o : Nat} (ho : o < r.length) (n : Nat) : OverL r o n (overR r o n) := by
  have h := over_some hr ho n
  unfold overR
  rw [dif_pos h]; exact h.choose_spec
theorem overR_is {r : List Bv} (hr : RowsIn r) {o n : Nat} (ho : o < r.length) {l : List Nat} (h : OverL r o n l) : l = overR r o n := h.ext (overR_ok hr ho n)
theorem overR_none {r : List Bv} (hr : RowsIn r) {o n : Nat} (ho : o < r.length) (h : ¬ Wk r o n) : overR r o n = [] := (overR_is hr ho (over_none h)).symm
theorem overR_root {r : List Bv} (hr : RowsIn r) {o : Nat} (ho : o < r.length) : overR r o o = [o] := (overR_is hr ho over_root).symm
theorem overR_snoc {r : List Bv} (hr : RowsIn r) {o n m : Nat} (ho : o < r.length) (h : Idom r o n m) : overR r o n = overR r o m ++ [n] := (overR_is hr ho (h.snoc (overR_ok hr ho m))).symm
theorem overR_len {r : List Bv} (hr : RowsIn r) {o : Nat} (ho : o < r.length) (n : Nat) : (overR r o n).length ≤ r.length := nodup_le (overR_ok hr ho n).nd fun a ha => dm_lt hr ho (((overR_ok hr ho n).mem a).1 ha)
open Classical in
/-- the immediate dominator, or -1 -/
noncomputable def idomR (r : List Bv) (o n : Nat) : Int := if h : ∃ m, Idom r o n m then ((h.choose : Nat) : Int) else -1
theorem idomR_is {r : List Bv} {o n m : Nat} (h : Idom r o n m) : idomR r o n = (m : Int) := by
  have hx : ∃ m, Idom r o n m := ⟨m, h⟩
  unfold idomR
  rw [dif_pos hx, hx.choose_spec.one h]
theorem idomR_none {r : List Bv} {o n : Nat} (h : ¬ ∃ m, Idom r o n m) : idomR r o n = -1 := by unfold idomR; rw [dif_neg h]
theorem idomR_root (r : List Bv) (o : Nat) : idomR r o o = -1 := idomR_none fun ⟨_, h⟩ => h.not_root
theorem idomR_far {r : List Bv} {o n : Nat} (h : ¬ Wk r o n) : idomR r o n = -1 := idomR_none fun ⟨_, k⟩ => h k.dm.1
end Go.Proofs.YtjmomgmbmgdeoaaDoor
