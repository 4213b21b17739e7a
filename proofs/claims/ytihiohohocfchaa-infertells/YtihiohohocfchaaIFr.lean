/-
  Package infer in plain words: what Fill answers; rows of rules whose strings lie in blocks of one's own or in elder ones. No condition.
-/
import Derived.Test.YtihiohohocfchaaINa
namespace Go.Proofs.Ytihiohohocfchaa
set_option maxRecDepth 100000
set_option linter.unusedVariables false
open Go.ChangeShapes Go.WideShapes Go.ChangeAt Go.RowKit

/-! what Fill answers -/
noncomputable def fillOne (l : List Rl) (I : List Mc) (K : List Str) (s : Str) : Option Rl :=
  if needsR l s = [] then
    match inf1 I K (stm s) (sfx s) with
    | some n => some ([s], [n])
    | none => if s ∈ uniq (allT l) then some ([s], []) else none
  else some ([s], needsR l s)
noncomputable def fillL (l z : List Rl) (I : List Mc) (T : List Str) : List Rl := (uniq (namesJ z)).filterMap (fillOne l I (uniq (uniq (namesJ z) ++ T)))
/-- z, x: what Join answers -/
noncomputable def fillR (l z : List Rl) (x : Int) (I : List Mc) (T : List Str) : List Rl × Int :=
  if x ≠ 0 then ([], x) else if infE I ≠ 0 then ([], infE I) else if T.all good = false then ([], 3) else if 64 < (uniq (uniq (namesJ z) ++ T)).length then ([], 2) else (fillL l z I T, 0)
theorem fillR_join {l z : List Rl} {x : Int} {I : List Mc} {T : List Str} (h : x ≠ 0) : fillR l z x I T = ([], x) := by unfold fillR; rw [if_pos h]
theorem fillR_inf {l z : List Rl} {I : List Mc} {T : List Str} (h : infE I ≠ 0) : fillR l z 0 I T = ([], infE I) := by unfold fillR; rw [if_neg (by simp), if_pos h]
theorem fillR_names {l z : List Rl} {I : List Mc} {T : List Str} (h : infE I = 0) (h2 : T.all good = false) : fillR l z 0 I T = ([], 3) := by unfold fillR; rw [if_neg (by simp), if_neg (by simp [h]), if_pos h2]
theorem fillR_many {l z : List Rl} {I : List Mc} {T : List Str} (h : infE I = 0) (h2 : T.all good = true) (h3 : 64 < (uniq (uniq (namesJ z) ++ T)).length) : fillR l z 0 I T = ([], 2) := by unfold fillR; rw [if_neg (by simp), if_neg (by simp [h]), if_neg (by simp [h2]), if_pos h3]
theorem fillR_ok {l z : List Rl} {I : List Mc} {T : List Str} (h : infE I = 0) (h2 : T.all good = true) (h3 : (uniq (uniq (namesJ z) ++ T)).length ≤ 64) : fillR l z 0 I T = (fillL l z I T, 0) := by unfold fillR; rw [if_neg (by simp), if_neg (by simp [h]), if_neg (by simp [h2]), if_neg (by omega)]

theorem fill_take {l : List Rl} {I : List Mc} {K U : List Str} {k : Nat} (h : k < U.length) : (U.take (k + 1)).filterMap (fillOne l I K) = (U.take k).filterMap (fillOne l I K) ++ (fillOne l I K (U.getD k [])).toList := by
  rw [List.take_add_one, List.getElem?_eq_getElem h, List.filterMap_append, List.getD, List.getElem?_eq_getElem h]
  congr 1
theorem one_needs {l : List Rl} {I : List Mc} {K : List Str} {s : Str} (h : needsR l s ≠ []) : fillOne l I K s = some ([s], needsR l s) := by unfold fillOne; rw [if_neg h]
theorem one_inf {l : List Rl} {I : List Mc} {K : List Str} {s n : Str} (h : needsR l s = []) (h2 : inf1 I K (stm s) (sfx s) = some n) : fillOne l I K s = some ([s], [n]) := by unfold fillOne; rw [if_pos h, h2]
theorem one_made {l : List Rl} {I : List Mc} {K : List Str} {s : Str} (h : needsR l s = []) (h2 : inf1 I K (stm s) (sfx s) = none) (h3 : s ∈ uniq (allT l)) : fillOne l I K s = some ([s], []) := by
  unfold fillOne; rw [if_pos h, h2]; exact if_pos h3
theorem one_none {l : List Rl} {I : List Mc} {K : List Str} {s : Str} (h : needsR l s = []) (h2 : inf1 I K (stm s) (sfx s) = none) (h3 : s ∉ uniq (allT l)) : fillOne l I K s = none := by
  unfold fillOne; rw [if_pos h, h2]; exact if_neg h3
theorem needs_target {l : List Rl} {s : Str} (h : s ∉ uniq (allT l)) : needsR l s = [] := by
  cases hn : needsR l s with
  | nil => rfl
  | cons y r =>
    obtain ⟨q, hq, h1, _⟩ := (needs_spec l s y).1 (by rw [hn]; exact List.mem_cons_self)
    exact absurd (uniq_mem.2 (allT_mem.2 ⟨q, hq, h1⟩)) h

/-! the joined rules -/
/-- what Join answers without a fault -/
structure Joined (l z : List Rl) : Prop where
  eq : z = (uniq (allT l)).map (oneR l)
  fine : firstR l = 0
  few : (uniq (allT l)).length ≤ 64
  needs : ∀ t ∈ uniq (allT l), (needsR l t).length ≤ 64
theorem JoinR.joined {l z : List Rl} (h : JoinR l z 0) : Joined l z := by
  obtain ⟨h1, h2, _, h3, h4⟩ := h.fine rfl
  exact ⟨h1, h2, h3, h4⟩
theorem Joined.len {l z : List Rl} (h : Joined l z) : z.length = (uniq (allT l)).length := by rw [h.eq, List.length_map]
theorem Joined.tg {l z : List Rl} (h : Joined l z) {k : Nat} (hk : k < z.length) : tg z k = [(uniq (allT l)).getD k []] := join_tg h.eq hk
theorem Joined.nd {l z : List Rl} (h : Joined l z) {k : Nat} (hk : k < z.length) : nd z k = needsR l ((uniq (allT l)).getD k []) := by
  have hk' := hk
  rw [h.len] at hk'
  unfold Go.Proofs.Ytihiohohocfchaa.nd
  rw [h.eq, List.getD, List.getElem?_map, List.getD, List.getElem?_eq_getElem hk']
  rfl
theorem Joined.rb {l z : List Rl} (h : Joined l z) : RB z := by
  refine ⟨by rw [h.len]; exact h.few, fun k hk => ⟨by rw [h.tg hk]; simp, ?_⟩⟩
  rw [h.nd hk]
  exact h.needs _ (getD_mem (by rw [← h.len]; exact hk))
theorem Joined.good {l z : List Rl} (h : Joined l z) : (namesJ z).all good = true := by
  rw [List.all_eq_true]
  intro x hx
  unfold namesJ at hx
  obtain ⟨r, hr, hx⟩ := List.mem_flatMap.1 hx
  rw [h.eq] at hr
  obtain ⟨t, ht, rfl⟩ := List.mem_map.1 hr
  rcases List.mem_append.1 hx with hx | hx
  · rw [List.mem_singleton.1 hx]
    exact List.all_eq_true.1 (good_uniq (allgood h.fine)) t ht
  · exact List.all_eq_true.1 (needs_good h.fine t) x hx
theorem Joined.small {l z : List Rl} (h : Joined l z) : ∀ r ∈ z, (r.1.length ≤ 17592186044416 ∧ r.2.length ≤ 17592186044416) ∧ (∀ x ∈ r.1, x.length ≤ 9223372036854775807) ∧ ∀ x ∈ r.2, x.length ≤ 9223372036854775807 := join_small h.eq h.fine h.needs

/-! strings in a block of one's own, or in an elder one -/
def HN (B : Nat) (v : Value) (z : List Str) (w : World) : Prop := SO B v z w ∨ ∃ w0, w0.heap.size ≤ B ∧ SIn w0 v z ∧ Below w0.heap.size w0 w
theorem HN.later {B : Nat} {v : Value} {z : List Str} {w w' : World} (h : HN B v z w) (hb : Below w.heap.size w w') : HN B v z w' := by
  rcases h with h | ⟨w0, h1, h2, h3⟩
  · exact .inl (own_later h hb)
  · exact .inr ⟨w0, h1, h2, h3.trans (hb.mono h3.size)⟩
theorem HN.kept {B : Nat} {v o : Value} {z : List Str} {w w' : World} {n : Nat} {xs : List Value} (h : HN B v z w) (ho : w.ownsRow B 40 2 o n xs) (g : w.grownBy w' o.ownBlock) : HN B v z w' := by
  rcases h with h | ⟨w0, h1, h2, h3⟩
  · exact .inl (World.ownsRow.kept h g (own_type h ho (by decide)))
  · exact .inr ⟨w0, h1, h2, h3.grown g h3.size (fun k hk => Nat.le_trans h1 (ho.lt k hk).1)⟩
theorem HN.sin {B : Nat} {v : Value} {z : List Str} {w : World} (h : HN B v z w) (hn : z.length ≤ 17592186044416) (hx : ∀ x ∈ z, x.length ≤ 9223372036854775807) : SIn w v z := by
  rcases h with h | ⟨w0, h1, h2, h3⟩
  · exact SIn.own h hn hx
  · exact h2.later h3
/-- a row of rules of one's own, their strings anywhere but in it -/
def FO (B : Nat) (v : Value) (z : List Rl) (w : World) : Prop :=
  ∃ c : List (Value × Value), c.length = z.length ∧ w.ownsRow B 40 2 v z.length (rcells c) ∧ ∀ k p, c[k]? = some p → HN B p.1 (tg z k) w ∧ HN B p.2 (nd z k) w
theorem FO.nil (B : Nat) (w : World) : FO B (.slice none 0 0) [] w := ⟨[], rfl, World.ownsRow_nil _ _ _ _, fun k p h => by simp at h⟩
theorem FO.later {B : Nat} {v : Value} {z : List Rl} {w w' : World} (h : FO B v z w) (hb : Below w.heap.size w w') : FO B v z w' := by
  obtain ⟨c, h1, h2, h3⟩ := h
  exact ⟨c, h1, own_later h2 hb, fun k p hk => ⟨(h3 k p hk).1.later hb, (h3 k p hk).2.later hb⟩⟩
theorem fo_snoc {B : Nat} {w4 w5 : World} {v v5 p1 p2 : Value} {out : List Rl} {c : List (Value × Value)} {t n : List Str} (hcl : c.length = out.length) (ho : w4.ownsRow B 40 2 v out.length (rcells c))
    (he : ∀ k p, c[k]? = some p → HN B p.1 (tg out k) w4 ∧ HN B p.2 (nd out k) w4) (h1 : HN B p1 t w4) (h2 : HN B p2 n w4)
    (g : w4.grownBy w5 v.ownBlock) (o5 : w5.ownsRow B 40 2 v5 (out.length + 1) (rcells c ++ [p1, p2])) : FO B v5 (out ++ [(t, n)]) w5 := by
  refine ⟨c ++ [(p1, p2)], by simp [hcl], by rw [rcells_snoc, List.length_append]; exact o5, fun k p hk => ?_⟩
  rcases Nat.lt_or_ge k c.length with hlt | hge
  · rw [List.getElem?_append_left hlt] at hk
    obtain ⟨e1, e2⟩ := tg_left (a := out) (x := (t, n)) (k := k) (by omega)
    rw [e1, e2]
    exact ⟨(he k p hk).1.kept ho g, (he k p hk).2.kept ho g⟩
  · rw [List.getElem?_append_right hge] at hk
    have hk0 : k - c.length = 0 := by
      rcases Nat.eq_zero_or_pos (k - c.length) with h | h
      · exact h
      · rw [List.getElem?_eq_none (show 1 ≤ k - c.length from h)] at hk; cases hk
    rw [hk0] at hk
    simp at hk
    subst hk
    obtain rfl : k = out.length := by omega
    obtain ⟨e1, e2⟩ := tg_last out (t, n)
    rw [e1, e2]
    exact ⟨h1.kept ho g, h2.kept ho g⟩
theorem FO.rin {B : Nat} {v : Value} {z : List Rl} {w : World} (h : FO B v z w) (hn : z.length ≤ 2932031007317) (hx : ∀ r ∈ z, (r.1.length ≤ 17592186044416 ∧ r.2.length ≤ 17592186044416) ∧ (∀ x ∈ r.1, x.length ≤ 9223372036854775807) ∧ ∀ x ∈ r.2, x.length ≤ 9223372036854775807) : RIn w v z := by
  obtain ⟨c, hcl, ho, he⟩ := h
  have hr := ho.2
  rcases hr with ⟨hv, h0⟩ | ⟨g, cap, cur, hv, hb, hg, hc, hm, hs, ht⟩
  · have : z = [] := List.length_eq_zero_iff.1 h0
    subst this
    exact ⟨none, 0, hv, Nat.le_refl _, Nat.zero_le _, Nat.zero_le _, .inl rfl⟩
  · refine ⟨_, cap, hv, hc, hm, hn, .inr ⟨g, 0, rfl, ?_, fun k => (c.getD k (.slice none 0 0, .slice none 0 0)).1, fun k => (c.getD k (.slice none 0 0, .slice none 0 0)).2, fun k hk => ?_⟩⟩
    · rcases Nat.lt_or_ge g w.heap.size with h' | h'
      · exact h'
      · simp [Array.getElem?_eq_none h'] at hg
    · have hkc : k < c.length := by omega
      have hp := List.getElem?_eq_getElem hkc
      have hcs := ho.cells (g := g) (by rw [hv]; rfl)
      obtain ⟨h1, h2⟩ := rcells_at c k _ hp
      have e1 := hcs _ _ h1
      have e2 := hcs _ _ h2
      rw [add_off] at e1 e2
      obtain ⟨q1, q2⟩ := he k _ hp
      obtain ⟨⟨b1, b2⟩, b3, b4⟩ := hx _ (rl_mem hk)
      have hgd : c.getD k (.slice none 0 0, .slice none 0 0) = c[k] := by rw [List.getD, hp]; rfl
      simp only [hgd, Nat.zero_add]
      exact ⟨e1, e2, q1.sin b1 b3, q2.sin b2 b4⟩
theorem up_sub {a b : List Str} (ha : Up a) (hb : Up b) (h : ∀ x ∈ a, x ∈ b) : a.length ≤ b.length := by
  have e : a = b.filter (fun x => decide (x ∈ a)) := up_ext ha (List.Pairwise.filter _ hb) fun x => by
    rw [List.mem_filter, decide_eq_true_iff]
    exact ⟨fun hx => ⟨h x hx, hx⟩, fun hx => hx.2⟩
  rw [e]
  exact List.length_filter_le _ _
/-- the rules that Fill answers are short -/
theorem fill_small {l z : List Rl} (hj : Joined l z) {I : List Mc} {T : List Str} (hK : (uniq (uniq (namesJ z) ++ T)).length ≤ 64) (hT : T.all good = true) :
    (fillL l z I T).length ≤ 64 ∧ ∀ r ∈ fillL l z I T, (r.1.length ≤ 17592186044416 ∧ r.2.length ≤ 17592186044416) ∧ (∀ x ∈ r.1, x.length ≤ 9223372036854775807) ∧ ∀ x ∈ r.2, x.length ≤ 9223372036854775807 := by
  have hall : (uniq (uniq (namesJ z) ++ T)).all good = true := by
    refine good_uniq ?_
    rw [List.all_append, good_uniq hj.good, hT]; rfl
  have hle : (uniq (namesJ z)).length ≤ (uniq (uniq (namesJ z) ++ T)).length := by
    exact up_sub (uniq_up _) (uniq_up _) fun x hx => uniq_mem.2 (List.mem_append_left _ hx)
  refine ⟨by unfold fillL; exact Nat.le_trans (List.length_filterMap_le _ _) (by omega), fun r hr => ?_⟩
  unfold fillL at hr
  obtain ⟨s, hs, he⟩ := List.mem_filterMap.1 hr
  have gs : good s = true := List.all_eq_true.1 (good_uniq hj.good) s hs
  have one : ∀ {a : Str}, good a = true → ∀ x ∈ [a], x.length ≤ 9223372036854775807 := fun {a} ha x hx => by
    rw [List.mem_singleton.1 hx]; have := (good_len ha).2; omega
  unfold fillOne at he
  split at he
  · split at he
    · rename_i n hn
      injection he with he
      subst he
      have gn : good n = true := by
        have : ∀ (I : List Mc) (K : List Str) (a b : Str), inf1 I K a b = some n → n ∈ K := fun I => by
          induction I with
          | nil => intro K a b h; cases h
          | cons y r ih =>
            intro K a b h
            rw [inf1] at h
            split at h
            · rename_i hc; injection h with h; subst h; exact hc.2
            · exact ih K a b h
        exact List.all_eq_true.1 hall n (this _ _ _ _ hn)
      exact ⟨⟨by simp, by simp⟩, one gs, one gn⟩
    · split at he
      · injection he with he
        subst he
        exact ⟨⟨by simp, by simp⟩, one gs, fun x hx => absurd hx List.not_mem_nil⟩
      · cases he
  · injection he with he
    subst he
    have hm : s ∈ uniq (allT l) := by
      rcases Classical.em (s ∈ uniq (allT l)) with h | h
      · exact h
      · rename_i hne; exact absurd (needs_target h) hne
    exact ⟨⟨by simp, by have := hj.needs s hm; show (needsR l s).length ≤ _; omega⟩, one gs, small_all (needs_good hj.fine s)⟩
end Go.Proofs.Ytihiohohocfchaa
