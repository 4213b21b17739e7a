/-
  Worlds that differ in the blocks of the first k rules alone; what stays there. No condition.
-/
import Derived.Test.YtdencbkepiaigaaDoorRSa
import Derived.Test.YtdencbkepiaigaaDoorRJoinW
namespace Go.Proofs.YtdencbkepiaigaaDoor
set_option linter.unusedVariables false
open Go.ChangeShapes Go.WideShapes Go.ChangeAt Go.RowKit

theorem own_same {w w' : World} {B : Nat} {e : TypeId} {s n : Nat} {v : Value} {xs : List Value} (h : w.ownsRow B e s v n xs) (hk : ∀ g, v.ownBlock = some g → w'.heap[g]? = w.heap[g]?) : w'.ownsRow B e s v n xs := by
  refine ⟨h.1, ?_⟩
  rcases h.2 with k | ⟨g, cap, cur, rfl, h2, h3, r⟩
  · exact .inl k
  · exact .inr ⟨g, cap, cur, rfl, h2, (hk g rfl).trans h3, r⟩
theorem tl_same {w w' : World} {v : Value} (h : Tl v w) (hk : ∀ g, v.ownBlock = some g → w'.heap[g]? = w.heap[g]?) : Tl v w' := fun g hg => by
  obtain ⟨cur, h1, h2⟩ := h g hg
  exact ⟨cur, (hk g hg).trans h1, h2⟩
/-- only the blocks of the first k rules differ -/
structure Kx (c : List (Value × Value)) (k : Nat) (w w' : World) : Prop where
  os : w'.os = w.os
  tape : w'.tape = w.tape
  output : w'.output = w.output
  size : w.heap.size ≤ w'.heap.size
  block : ∀ g, g < w.heap.size → (∀ u ∈ rcells (c.take k), u.ownBlock ≠ some g) → w'.heap[g]? = w.heap[g]?
theorem Kx.refl (c : List (Value × Value)) (w : World) : Kx c 0 w w := ⟨rfl, rfl, rfl, Nat.le_refl _, fun _ _ _ => rfl⟩
theorem rcells_take {c : List (Value × Value)} {k : Nat} {p : Value × Value} (h : c[k]? = some p) : rcells (c.take (k + 1)) = rcells (c.take k) ++ [p.1, p.2] := by
  rw [List.take_add_one, h]
  exact rcells_snoc _ _ _
theorem Kx.grow {c : List (Value × Value)} {k : Nat} {w wr w6 w7 : World} {p : Value × Value} (h : Kx c k w wr) (hp : c[k]? = some p) (g6 : wr.grownBy w6 p.2.ownBlock) (g7 : w6.grownBy w7 p.1.ownBlock) : Kx c (k + 1) w w7 := by
  refine ⟨g7.os.trans (g6.os.trans h.os), g7.tape.trans (g6.tape.trans h.tape), g7.output.trans (g6.output.trans h.output), Nat.le_trans h.size (Nat.le_trans g6.size g7.size), fun g hg hu => ?_⟩
  rw [rcells_take hp] at hu
  have h1 : p.1.ownBlock ≠ some g := hu _ (List.mem_append_right _ (by simp))
  have h2 : p.2.ownBlock ≠ some g := hu _ (List.mem_append_right _ (by simp))
  have l1 := Nat.lt_of_lt_of_le hg h.size
  rw [g7.block g (Nat.lt_of_lt_of_le l1 g6.size) (fun e => h1 e.symm), g6.block g l1 (fun e => h2 e.symm)]
  exact h.block g hg (fun u hu' => hu u (List.mem_append_left _ hu'))
theorem Kx.on {c : List (Value × Value)} {k : Nat} {w wr w8 : World} (h : Kx c k w wr) (hb : Below wr.heap.size wr w8) : Kx c k w w8 :=
  ⟨hb.os.trans h.os, hb.tape.trans h.tape, hb.output.trans h.output, Nat.le_trans h.size hb.size, fun g hg hu => (hb.block g (Nat.lt_of_lt_of_le hg h.size)).trans (h.block g hg hu)⟩
theorem mem_take_cells {c : List (Value × Value)} {k : Nat} {u : Value} (h : u ∈ rcells (c.take k)) : u ∈ rcells c := by
  obtain ⟨p, hp, hu⟩ := rcells_mem.1 h
  exact rcells_mem.2 ⟨p, List.mem_of_mem_take hp, hu⟩
theorem mem_cells {c : List (Value × Value)} {j : Nat} {p : Value × Value} (h : c[j]? = some p) : p.1 ∈ rcells c ∧ p.2 ∈ rcells c :=
  ⟨rcells_mem.2 ⟨p, List.mem_of_getElem? h, .inl rfl⟩, rcells_mem.2 ⟨p, List.mem_of_getElem? h, .inr rfl⟩⟩
theorem Kx.below {c : List (Value × Value)} {k B : Nat} {w wr : World} (h : Kx c k w wr) (hc : ∀ u ∈ rcells c, ∀ g, u.ownBlock = some g → B ≤ g) (hB : B ≤ w.heap.size) : Below B w wr :=
  ⟨h.os, h.tape, h.output, h.size, fun g hg => h.block g (by omega) (fun u hu e => by have := hc u (mem_take_cells hu) g e; omega)⟩
theorem ROb.entry {B : Nat} {v : Value} {z : List Rl} {w : World} {c : List (Value × Value)} (h : ROb B v z w c) {u : Value} (hu : u ∈ rcells c) : ∃ x, SO B u x w := by
  obtain ⟨p, hp, hpu⟩ := rcells_mem.1 hu
  obtain ⟨j, hj, rfl⟩ := List.getElem_of_mem hp
  have := h.2.2.1 j _ (List.getElem?_eq_getElem hj)
  rcases hpu with rfl | rfl
  · exact ⟨_, this.1⟩
  · exact ⟨_, this.2⟩
theorem apart_take {c : List (Value × Value)} {k j : Nat} {p : Value × Value} (hap : (rcells c).Pairwise Apart) (hp : c[j]? = some p) (hk : k ≤ j) : ∀ u ∈ rcells (c.take k), Apart u p.1 ∧ Apart u p.2 := by
  intro u hu
  have e : rcells c = rcells (c.take k) ++ rcells (c.drop k) := by
    show _ = (c.take k).flatMap _ ++ (c.drop k).flatMap _
    rw [← List.flatMap_append, List.take_append_drop]; rfl
  rw [e, List.pairwise_append] at hap
  have hd : (c.drop k)[j - k]? = some p := by rw [List.getElem?_drop, show k + (j - k) = j by omega]; exact hp
  exact ⟨hap.2.2 u hu _ (mem_cells hd).1, hap.2.2 u hu _ (mem_cells hd).2⟩
theorem apart_pair {c : List (Value × Value)} {j : Nat} {p : Value × Value} (hap : (rcells c).Pairwise Apart) (hp : c[j]? = some p) : Apart p.1 p.2 := by
  have hj : j < c.length := by
    rcases Nat.lt_or_ge j c.length with h | h
    · exact h
    · rw [List.getElem?_eq_none h] at hp; cases hp
  have e : c = c.take j ++ p :: c.drop (j + 1) := by
    rw [List.getElem?_eq_getElem hj] at hp
    cases hp
    rw [← List.drop_eq_getElem_cons hj, List.take_append_drop]
  rw [e] at hap
  have : rcells (c.take j ++ p :: c.drop (j + 1)) = rcells (c.take j) ++ (p.1 :: p.2 :: rcells (c.drop (j + 1))) := by simp [rcells]
  rw [this, List.pairwise_append] at hap
  exact (List.pairwise_cons.1 hap.2.1).1 _ (List.mem_cons_self ..)
section
variable {B : Nat} {v : Value} {z : List Rl} {w wr : World} {c : List (Value × Value)} {k : Nat}
theorem Kx.blk (h : Kx c k w wr) (hr : ROb B v z w c) {u : Value} {x : List Str} (hu : SO B u x w) (ha : ∀ a ∈ rcells (c.take k), Apart a u) : ∀ g, u.ownBlock = some g → wr.heap[g]? = w.heap[g]? := fun g hg =>
  h.block g (hu.lt g hg).2 (fun a haa e => ha a haa g e hg)
theorem Kx.so (h : Kx c k w wr) (hr : ROb B v z w c) {j : Nat} {p : Value × Value} (hp : c[j]? = some p) (hk : k ≤ j) : SO B p.1 (tg z j) wr ∧ SO B p.2 (nd z j) wr := by
  have h1 := hr.2.2.1 j p hp
  have h2 := apart_take hr.2.2.2 hp hk
  exact ⟨own_same h1.1 (h.blk hr h1.1 fun a ha => (h2 a ha).1), own_same h1.2 (h.blk hr h1.2 fun a ha => (h2 a ha).2)⟩
theorem Kx.tl (h : Kx c k w wr) (hr : ROb B v z w c) (ht : ∀ u ∈ rcells c, Tl u w) {j : Nat} {p : Value × Value} (hp : c[j]? = some p) (hk : k ≤ j) : Tl p.1 wr ∧ Tl p.2 wr := by
  have h1 := hr.2.2.1 j p hp
  have h2 := apart_take hr.2.2.2 hp hk
  exact ⟨tl_same (ht _ (mem_cells hp).1) (h.blk hr h1.1 fun a ha => (h2 a ha).1), tl_same (ht _ (mem_cells hp).2) (h.blk hr h1.2 fun a ha => (h2 a ha).2)⟩
theorem Kx.row (h : Kx c k w wr) (hr : ROb B v z w c) : wr.ownsRow B 24 2 v z.length (rcells c) := by
  refine own_same hr.2.1 fun g hg => h.block g (hr.2.1.lt g hg).2 fun u hu e => ?_
  obtain ⟨x, hx⟩ := hr.entry (mem_take_cells hu)
  rcases own_type hx hr.2.1 (by decide) with h' | h'
  · rw [h'] at e; cases e
  · exact h' (e.trans hg.symm)
theorem Kx.other (h : Kx c k w wr) (hr : ROb B v z w c) {D : Nat} {v' : Value} {z' : List Rl} (hD : ∀ u ∈ rcells c, ∀ g, u.ownBlock = some g → g < D) (ho : RO D v' z' w) : RO D v' z' wr := by
  have hb : ∀ {e : TypeId} {s n : Nat} {u : Value} {xs : List Value}, w.ownsRow D e s u n xs → wr.ownsRow D e s u n xs := fun hu => own_same hu fun g hg => h.block g (hu.lt g hg).2 fun a ha e => by
    have h1 := hD a (mem_take_cells ha) g e
    have h2 := (hu.lt g hg).1
    omega
  obtain ⟨c', h1, h2, h3, h4⟩ := ho
  exact ⟨c', h1, hb h2, fun j p hj => ⟨hb (h3 j p hj).1, hb (h3 j p hj).2⟩, h4⟩
end
/-- what the rules' sizes must keep to -/
def Small (z : List Rl) : Prop := ∀ r ∈ z, (r.1.length ≤ 17592186044416 ∧ r.2.length ≤ 17592186044416) ∧ (∀ x ∈ r.1, x.length ≤ 9223372036854775807) ∧ ∀ x ∈ r.2, x.length ≤ 9223372036854775807
theorem RIn.small {w : World} {v : Value} {z : List Rl} (h : RIn w v z) : Small z := by
  intro r hr
  obtain ⟨k, hk, rfl⟩ := List.getElem_of_mem hr
  rcases h.open with ⟨rfl, _⟩ | ⟨_, b, off, cap, _, _, _, T, U, hc⟩
  · exact absurd hk (Nat.not_lt_zero _)
  · obtain ⟨_, _, s0, s1⟩ := hc k hk
    have e := rl_some hk
    rw [List.getElem?_eq_getElem hk] at e
    rw [Option.some.inj e]
    exact ⟨⟨s0.bound, s1.bound⟩, s0.small, s1.small⟩
/-- the rest of a row of rules -/
theorem rin_drop {B g cap k : Nat} {z : List Rl} {w : World} {c : List (Value × Value)} (hcl : c.length = z.length) (ho : w.ownsRow B 24 2 (.slice (some ⟨g, 0, none⟩) z.length cap) z.length (rcells c))
    (he : ∀ j p, k ≤ j → c[j]? = some p → SO B p.1 (tg z j) w ∧ SO B p.2 (nd z j) w) (hn : z.length ≤ 2932031007317) (hx : Small z) (hk : k ≤ z.length) : RIn w (.slice (some ⟨g, k * 2, none⟩) (z.length - k) (cap - k)) (z.drop k) := by
  obtain ⟨hlt, hc1, hc2⟩ : g < w.heap.size ∧ z.length ≤ cap ∧ cap ≤ maxLen := by
    rcases ho.2 with ⟨h, _⟩ | ⟨g', cap', cur, h, _, hg, h1, h2, _⟩
    · cases h
    · cases h; exact ⟨heap_lt hg, h1, h2⟩
  refine ⟨some ⟨g, k * 2, none⟩, cap - k, by rw [List.length_drop], by rw [List.length_drop]; omega, by omega, by rw [List.length_drop]; omega, .inr ⟨g, k * 2, rfl, hlt, fun j => (c.getD (k + j) (.slice none 0 0, .slice none 0 0)).1, fun j => (c.getD (k + j) (.slice none 0 0, .slice none 0 0)).2, fun j hj => ?_⟩⟩
  rw [List.length_drop] at hj
  have hkc : k + j < c.length := by omega
  have hp := List.getElem?_eq_getElem hkc
  have hcs := ho.cells (g := g) rfl
  obtain ⟨h1, h2⟩ := rcells_at c (k + j) _ hp
  have e1 := hcs _ _ h1
  have e2 := hcs _ _ h2
  rw [add_off] at e1 e2
  obtain ⟨q1, q2⟩ := he (k + j) _ (by omega) hp
  have hzk : k + j < z.length := by omega
  obtain ⟨⟨b1, b2⟩, b3, b4⟩ := hx _ (rl_mem hzk)
  have hgd : c.getD (k + j) (.slice none 0 0, .slice none 0 0) = c[k + j] := by rw [List.getD, hp]; rfl
  have ht : tg (z.drop k) j = tg z (k + j) ∧ nd (z.drop k) j = nd z (k + j) := by
    unfold tg nd
    rw [List.getD, List.getD, List.getElem?_drop]
    exact ⟨rfl, rfl⟩
  rw [ht.1, ht.2]
  simp only [hgd]
  rw [show k * 2 + j * 2 = (k + j) * 2 by omega]
  exact ⟨e1, e2, SIn.own q1 b1 b3, SIn.own q2 b2 b4⟩
theorem rin_drop' {B g cap k : Nat} {z : List Rl} {w : World} {c : List (Value × Value)} (hcl : c.length = z.length) (ho : w.ownsRow B 24 2 (.slice (some ⟨g, 0, none⟩) z.length cap) z.length (rcells c))
    (he : ∀ j p, k ≤ j → c[j]? = some p → SO B p.1 (tg z j) w ∧ SO B p.2 (nd z j) w) (hn : z.length ≤ 2932031007317) (hx : Small z) (hk : k ≤ z.length) : RIn w (.slice (if cap = k then some ⟨g, 0, none⟩ else some ⟨g, k * 2, none⟩) (z.length - k) (cap - k)) (z.drop k) := by
  have h := rin_drop hcl ho he hn hx hk
  by_cases hc : cap = k
  · rw [if_pos hc]
    obtain ⟨a, cap', h1, h2, h3, h4, _⟩ := h
    have e : cap' = cap - k := by injection h1 with _ _ e; exact e.symm
    rw [e] at h2 h3
    refine ⟨some ⟨g, 0, none⟩, cap - k, by rw [List.length_drop], h2, h3, h4, .inl ?_⟩
    apply List.eq_nil_of_length_eq_zero
    rw [List.length_drop] at h2 ⊢
    omega
  · rw [if_neg hc]; exact h
end Go.Proofs.YtdencbkepiaigaaDoor
