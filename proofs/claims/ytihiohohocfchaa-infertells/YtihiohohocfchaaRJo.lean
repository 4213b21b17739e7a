/-
  What package rule's Join answers. No condition beyond the form's own.
-/
import Derived.Test.YtihiohohocfchaaRNd
namespace Go.Proofs.Ytihiohohocfchaa
set_option maxRecDepth 100000
set_option linter.unusedVariables false
open Go.ChangeShapes Go.WideShapes Go.ChangeAt Go.RowKit

theorem own_later {w w' : World} {B : Nat} {e : TypeId} {s : Nat} {v : Value} {n : Nat} {xs : List Value} (h : w.ownsRow B e s v n xs) (hb : Below w.heap.size w w') : w'.ownsRow B e s v n xs := by
  refine ⟨h.1, ?_⟩
  rcases h.2 with k | ⟨g, cap, cur, h1, h2, h3, r⟩
  · exact .inl k
  · have hl : g < w.heap.size := by
      rcases Nat.lt_or_ge g w.heap.size with h' | h'
      · exact h'
      · simp [Array.getElem?_eq_none h'] at h3
    exact .inr ⟨g, cap, cur, h1, h2, (hb.block g hl).trans h3, r⟩
theorem own_base {w : World} {b1 b2 : Nat} {e : TypeId} {s n : Nat} {v : Value} {xs : List Value} (h : w.ownsRow b1 e s v n xs) (hb : b2 ≤ b1) : w.ownsRow b2 e s v n xs := by
  refine ⟨h.1, ?_⟩
  rcases h.2 with k | ⟨g, cap, cur, h1, h2, r⟩
  · exact .inl k
  · exact .inr ⟨g, cap, cur, h1, Nat.le_trans hb h2, r⟩
theorem own_type {w : World} {b1 b2 : Nat} {e1 e2 : TypeId} {s1 s2 n1 n2 : Nat} {v1 v2 : Value} {x1 x2 : List Value} (h1 : w.ownsRow b1 e1 s1 v1 n1 x1) (h2 : w.ownsRow b2 e2 s2 v2 n2 x2) (hne : e1 ≠ e2) : v1.ownBlock = none ∨ v1.ownBlock ≠ v2.ownBlock := by
  rcases h1.2 with ⟨rfl, _⟩ | ⟨g, cap, cur, rfl, _, hg, _⟩
  · exact .inl rfl
  · right
    rcases h2.2 with ⟨rfl, _⟩ | ⟨g', cap', cur', rfl, _, hg', _⟩
    · intro h; cases h
    · intro h
      have : g = g' := Option.some.inj h
      subst this
      rw [hg] at hg'
      cases hg'
      exact hne rfl

/-- two values lie in different blocks -/
def Apart (a b : Value) : Prop := ∀ k, a.ownBlock = some k → b.ownBlock ≠ some k
def rcells (c : List (Value × Value)) : List Value := c.flatMap fun p => [p.1, p.2]
theorem rcells_snoc (c : List (Value × Value)) (p q : Value) : rcells (c ++ [(p, q)]) = rcells c ++ [p, q] := by simp [rcells]
theorem rcells_mem {c : List (Value × Value)} {a : Value} : a ∈ rcells c ↔ ∃ p ∈ c, a = p.1 ∨ a = p.2 := by simp [rcells]
theorem rcells_at : ∀ (c : List (Value × Value)) (k : Nat) (p : Value × Value), c[k]? = some p → (rcells c)[k * 2]? = some p.1 ∧ (rcells c)[k * 2 + 1]? = some p.2
  | [], k, x, h => by simp at h
  | y :: t, 0, x, h => by simp at h; subst h; simp [rcells]
  | y :: t, k + 1, x, h => by
    have ih := rcells_at t k x (by simpa using h)
    have e : rcells (y :: t) = y.1 :: y.2 :: rcells t := by simp [rcells]
    rw [e, show (k + 1) * 2 = k * 2 + 1 + 1 by omega]
    simpa using ih
/-- a row of rules of the call's own, whose targets and needs lie in blocks of their own: the values are c -/
def ROb (B : Nat) (v : Value) (z : List Rl) (w : World) (c : List (Value × Value)) : Prop :=
  c.length = z.length ∧ w.ownsRow B 40 2 v z.length (rcells c) ∧ (∀ k p, c[k]? = some p → SO B p.1 (tg z k) w ∧ SO B p.2 (nd z k) w) ∧ (rcells c).Pairwise Apart
def RO (B : Nat) (v : Value) (z : List Rl) (w : World) : Prop := ∃ c : List (Value × Value), ROb B v z w c
/-- .. and every cell of their blocks is a string -/
def ROT (B : Nat) (v : Value) (z : List Rl) (w : World) : Prop := ∃ c : List (Value × Value), ROb B v z w c ∧ ∀ u ∈ rcells c, Tl u w
theorem ROT.ro {B : Nat} {v : Value} {z : List Rl} {w : World} (h : ROT B v z w) : RO B v z w := by obtain ⟨c, h, _⟩ := h; exact ⟨c, h⟩
theorem RO.nil (B : Nat) (w : World) : RO B (.slice none 0 0) [] w := ⟨[], rfl, World.ownsRow_nil _ _ _ _, fun k p h => by simp at h, List.Pairwise.nil⟩
theorem ROT.nil (B : Nat) (w : World) : ROT B (.slice none 0 0) [] w := ⟨[], ⟨rfl, World.ownsRow_nil _ _ _ _, fun k p h => by simp at h, List.Pairwise.nil⟩, fun u hu => by simp [rcells] at hu⟩
theorem ROb.later {B : Nat} {v : Value} {z : List Rl} {w w' : World} {c : List (Value × Value)} (h : ROb B v z w c) (hb : Below w.heap.size w w') : ROb B v z w' c := by
  obtain ⟨h1, h2, h3, h4⟩ := h
  exact ⟨h1, own_later h2 hb, fun k p hk => ⟨own_later (h3 k p hk).1 hb, own_later (h3 k p hk).2 hb⟩, h4⟩
theorem ROb.less {B B' : Nat} {v : Value} {z : List Rl} {w : World} {c : List (Value × Value)} (h : ROb B v z w c) (hb : B' ≤ B) : ROb B' v z w c := by
  obtain ⟨h1, h2, h3, h4⟩ := h
  exact ⟨h1, own_base h2 hb, fun k p hk => ⟨own_base (h3 k p hk).1 hb, own_base (h3 k p hk).2 hb⟩, h4⟩
theorem RO.later {B : Nat} {v : Value} {z : List Rl} {w w' : World} (h : RO B v z w) (hb : Below w.heap.size w w') : RO B v z w' := by obtain ⟨c, h⟩ := h; exact ⟨c, h.later hb⟩
theorem RO.less {B B' : Nat} {v : Value} {z : List Rl} {w : World} (h : RO B v z w) (hb : B' ≤ B) : RO B' v z w := by obtain ⟨c, h⟩ := h; exact ⟨c, h.less hb⟩
theorem ROT.less {B B' : Nat} {v : Value} {z : List Rl} {w : World} (h : ROT B v z w) (hb : B' ≤ B) : ROT B' v z w := by obtain ⟨c, h, k⟩ := h; exact ⟨c, h.less hb, k⟩
theorem tg_left {a : List Rl} {x : Rl} {k : Nat} (h : k < a.length) : tg (a ++ [x]) k = tg a k ∧ nd (a ++ [x]) k = nd a k := by
  unfold tg nd
  rw [List.getD, List.getD, List.getElem?_append_left h]
  exact ⟨rfl, rfl⟩
theorem tg_last (a : List Rl) (x : Rl) : tg (a ++ [x]) a.length = x.1 ∧ nd (a ++ [x]) a.length = x.2 := by
  unfold tg nd
  rw [List.getD, List.getElem?_append_right (Nat.le_refl _)]
  simp
theorem ro_snoc {B : Nat} {wr w4 w5 : World} {v v5 p1 p2 : Value} {out : List Rl} {c : List (Value × Value)} {t n : List Str} (hcl : c.length = out.length) (ho : wr.ownsRow B 40 2 v out.length (rcells c))
    (he : ∀ k p, c[k]? = some p → SO B p.1 (tg out k) wr ∧ SO B p.2 (nd out k) wr) (hap : (rcells c).Pairwise Apart) (hb : Below wr.heap.size wr w4) (h1 : SO wr.heap.size p1 t w4) (h2 : SO wr.heap.size p2 n w4) (ap : Apart p1 p2) (hB : B ≤ wr.heap.size)
    (g : w4.grownBy w5 v.ownBlock) (o5 : w5.ownsRow B 40 2 v5 (out.length + 1) (rcells c ++ [p1, p2])) : ROb B v5 (out ++ [(t, n)]) w5 (c ++ [(p1, p2)]) := by
  have ho4 := own_later ho hb
  have keep : ∀ {b p z}, SO b p z w4 → SO b p z w5 := fun {b p z} h => World.ownsRow.kept h g (own_type h ho4 (by decide))
  refine ⟨by simp [hcl], by rw [rcells_snoc, List.length_append]; exact o5, fun k p hk => ?_, ?_⟩
  · rcases Nat.lt_or_ge k c.length with hlt | hge
    · rw [List.getElem?_append_left hlt] at hk
      obtain ⟨e1, e2⟩ := tg_left (a := out) (x := (t, n)) (k := k) (by omega)
      rw [e1, e2]
      exact ⟨keep (own_later (he k p hk).1 hb), keep (own_later (he k p hk).2 hb)⟩
    · rw [List.getElem?_append_right hge] at hk
      have hk0 : k - c.length = 0 := by
        rcases Nat.eq_zero_or_pos (k - c.length) with h | h
        · exact h
        · rw [List.getElem?_eq_none (show 1 ≤ k - c.length from h)] at hk; cases hk
      rw [hk0] at hk
      simp at hk
      subst hk
      obtain rfl : k = out.length := by omega
      obtain ⟨e1, e2⟩ := tg_last out (t, n)
      rw [e1, e2]
      exact ⟨own_base (keep h1) hB, own_base (keep h2) hB⟩
  · rw [rcells_snoc, List.pairwise_append]
    refine ⟨hap, List.pairwise_cons.2 ⟨fun b hb' => ?_, List.pairwise_singleton _ _⟩, fun a ha b hb' => ?_⟩
    · rw [List.mem_singleton] at hb'; subst hb'; exact ap
    · obtain ⟨p, hp, hpa⟩ := rcells_mem.1 ha
      obtain ⟨k, hk, rfl⟩ := List.getElem_of_mem hp
      have hek := he k _ (List.getElem?_eq_getElem hk)
      intro q hq
      have hlt : q < wr.heap.size := by
        rcases hpa with rfl | rfl
        · exact (hek.1.lt q hq).2
        · exact (hek.2.lt q hq).2
      intro hbq
      have hge : wr.heap.size ≤ q := by
        simp at hb'
        rcases hb' with rfl | rfl
        · exact (h1.lt q hbq).1
        · exact (h2.lt q hbq).1
      omega

theorem tl_other {B : Nat} {w4 w5 : World} {u v : Value} {n : Nat} {xs : List Value} (h : Tl u w4) (ho : w4.ownsRow B 40 2 v n xs) (g : w4.grownBy w5 v.ownBlock) : Tl u w5 := by
  refine h.kept g ?_
  cases hu : u.ownBlock with
  | none => exact .inl rfl
  | some k =>
    right
    intro he
    obtain ⟨cur, h1, _⟩ := h k hu
    rcases ho.2 with ⟨rfl, _⟩ | ⟨g', cap, cur', rfl, _, hg', _⟩
    · cases he
    · have : k = g' := Option.some.inj he
      subst this
      rw [h1] at hg'
      cases hg'
theorem rot_snoc {B : Nat} {wr w4 w5 : World} {v v5 p1 p2 : Value} {out : List Rl} {c : List (Value × Value)} {t n : List Str} (hcl : c.length = out.length) (ho : wr.ownsRow B 40 2 v out.length (rcells c))
    (he : ∀ k p, c[k]? = some p → SO B p.1 (tg out k) wr ∧ SO B p.2 (nd out k) wr) (hap : (rcells c).Pairwise Apart) (hb : Below wr.heap.size wr w4) (h1 : SO wr.heap.size p1 t w4) (h2 : SO wr.heap.size p2 n w4) (ap : Apart p1 p2) (hB : B ≤ wr.heap.size)
    (g : w4.grownBy w5 v.ownBlock) (o5 : w5.ownsRow B 40 2 v5 (out.length + 1) (rcells c ++ [p1, p2])) (ht : ∀ u ∈ rcells c, Tl u wr) (t1 : Tl p1 w4) (t2 : Tl p2 w4) : ROT B v5 (out ++ [(t, n)]) w5 := by
  refine ⟨_, ro_snoc hcl ho he hap hb h1 h2 ap hB g o5, fun u hu => ?_⟩
  have ho4 := own_later ho hb
  rw [rcells_snoc] at hu
  rcases List.mem_append.1 hu with h | h
  · exact tl_other ((ht u h).later hb) ho4 g
  · simp at h
    rcases h with rfl | rfl
    · exact tl_other t1 ho4 g
    · exact tl_other t2 ho4 g

/-- the first fault of the rules -/
def firstR : List Rl → Int
  | [] => 0
  | r :: l => if chkR r = 0 then firstR l else chkR r
theorem first_snoc {l : List Rl} {r : Rl} (h : firstR l = 0) : firstR (l ++ [r]) = chkR r := by
  induction l with
  | nil => show (if chkR r = 0 then 0 else chkR r) = chkR r; split <;> simp_all
  | cons a l ih =>
    rw [firstR] at h
    rw [List.cons_append, firstR]
    by_cases ha : chkR a = 0
    · rw [if_pos ha] at h ⊢; exact ih h
    · rw [if_neg ha] at h; exact absurd h ha
theorem first_append {l r : List Rl} (h : firstR l ≠ 0) : firstR (l ++ r) = firstR l := by
  induction l with
  | nil => exact absurd rfl h
  | cons a l ih =>
    rw [firstR] at h
    rw [List.cons_append, firstR, firstR]
    by_cases ha : chkR a = 0
    · rw [if_pos ha] at h ⊢; rw [if_pos ha]; exact ih h
    · rw [if_neg ha, if_neg ha]
theorem first_ok {l : List Rl} (h : firstR l = 0) : ∀ r ∈ l, chkR r = 0 := by
  induction l with
  | nil => intro r hr; cases hr
  | cons a l ih =>
    rw [firstR] at h
    by_cases ha : chkR a = 0
    · rw [if_pos ha] at h
      intro r hr
      rcases List.mem_cons.1 hr with rfl | hr
      · exact ha
      · exact ih h r hr
    · rw [if_neg ha] at h; exact absurd h ha
theorem chk_ok {r : Rl} (h : chkR r = 0) : r.1.length ≤ 20 ∧ r.2.length ≤ 20 ∧ 0 < r.1.length ∧ r.1.all good = true ∧ r.2.all good = true := by
  unfold chkR at h
  by_cases h1 : 20 < r.1.length ∨ 20 < r.2.length
  · rw [if_pos h1] at h; cases h
  rw [if_neg h1] at h
  by_cases h2 : r.1.length = 0
  · rw [if_pos h2] at h; cases h
  rw [if_neg h2] at h
  by_cases h3 : r.1.all good = false
  · rw [if_pos h3] at h; cases h
  rw [if_neg h3] at h
  by_cases h4 : r.2.all good = false
  · rw [if_pos h4] at h; cases h
  exact ⟨by omega, by omega, by omega, by simpa using h3, by simpa using h4⟩

/-- all targets -/
def allT (l : List Rl) : List Str := l.flatMap (·.1)
def oneR (l : List Rl) (t : Str) : Rl := ([t], needsR l t)
/-- what Join answers -/
inductive JoinR (l : List Rl) : List Rl → Int → Prop
  | large : 100 < l.length → JoinR l [] 2
  | fault : l.length ≤ 100 → firstR l ≠ 0 → JoinR l [] (firstR l)
  | many : l.length ≤ 100 → firstR l = 0 → 64 < (uniq (allT l)).length → JoinR l [] 2
  | needs (t : Str) : l.length ≤ 100 → firstR l = 0 → (uniq (allT l)).length ≤ 64 → t ∈ uniq (allT l) → 64 < (needsR l t).length → JoinR l [] 2
  | ok : l.length ≤ 100 → firstR l = 0 → (uniq (allT l)).length ≤ 64 → (∀ t ∈ uniq (allT l), (needsR l t).length ≤ 64) → JoinR l ((uniq (allT l)).map (oneR l)) 0
theorem JoinR.same {l a b : List Rl} {e f : Int} (h : JoinR l a e) (k : JoinR l b f) : a = b ∧ e = f := by
  cases h <;> cases k <;> first
    | exact ⟨rfl, rfl⟩
    | omega
    | (rename_i h1 h2; exact absurd h1 (by assumption))
    | (exfalso; simp_all; done)
    | (exfalso; rename_i t _ _ _ hm hl _ _ _ ha; have := ha t hm; omega)
    | (exfalso; rename_i _ _ _ ha t _ _ _ hm hl; have := ha t hm; omega)
def JoinPost (l : List Rl) (w : World) (e : Ending) (w' : World) : Prop :=
  ∃ v z x, e = .returned (.tuple #[v, .int .i64 x]) ∧ JoinR l z x ∧ RO w.heap.size v z w' ∧ Below w.heap.size w w'
/-- .. with the blocks' other cells -/
def JoinPostT (l : List Rl) (w : World) (e : Ending) (w' : World) : Prop :=
  ∃ v z x, e = .returned (.tuple #[v, .int .i64 x]) ∧ JoinR l z x ∧ ROT w.heap.size v z w' ∧ Below w.heap.size w w'
end Go.Proofs.Ytihiohohocfchaa
