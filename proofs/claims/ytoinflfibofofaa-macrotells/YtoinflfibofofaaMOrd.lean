/-
  Orders of macros in plain words: each behind those that it refers to. No condition.
-/
import Derived.Test.YtoinflfibofofaaMBy
namespace Go.Proofs.Ytoinflfibofofaa
set_option linter.unusedVariables false

def names (l : List Mc) : List Str := l.map (·.1)
theorem names_snoc (o : List Mc) (m : Mc) : names (o ++ [m]) = names o ++ [m.1] := by unfold names; rw [List.map_append]; rfl
def Ord (o : List Mc) : Prop := ∀ (i : Nat) (m : Mc), o[i]? = some m → ∀ x ∈ usesR m.2, x ∈ names (o.take i)
theorem Ord.snoc {o : List Mc} {m : Mc} (h : Ord o) (hm : ∀ x ∈ usesR m.2, x ∈ names o) : Ord (o ++ [m]) := by
  intro i m' hi x hx
  rcases Nat.lt_or_ge i o.length with hl | hl
  · rw [List.getElem?_append_left hl] at hi
    rw [List.take_append_of_le_length (Nat.le_of_lt hl)]
    exact h i m' hi x hx
  · rw [List.getElem?_append_right hl] at hi
    rcases Nat.eq_or_lt_of_le hl with e | e
    · rw [← e, Nat.sub_self] at hi
      simp at hi
      subst hi
      rw [← e, List.take_left]
      exact hm x hx
    · rw [List.getElem?_eq_none (by simp; omega)] at hi
      cases hi
/-- how many are not placed yet -/
def cntU (z o : List Mc) : Nat := (z.filter fun m => !(names o).contains m.1).length
theorem cntU_other {o : List Mc} {m : Mc} : ∀ z : List Mc, (∀ x ∈ z, x.1 ≠ m.1) → cntU z (o ++ [m]) = cntU z o
  | [], _ => rfl
  | a :: r, h => by
    have ih := cntU_other (o := o) (m := m) r (fun x hx => h x (List.mem_cons_of_mem _ hx))
    have ha := h a List.mem_cons_self
    unfold cntU at ih ⊢
    rw [List.filter_cons, List.filter_cons]
    have e : (names (o ++ [m])).contains a.1 = (names o).contains a.1 := by rw [names_snoc]; simp [ha]
    rw [e]
    split
    · rw [List.length_cons, List.length_cons, ih]
    · exact ih
theorem cntU_snoc {o : List Mc} {m : Mc} (hc : (names o).contains m.1 = false) : ∀ z : List Mc, (names z).Nodup → m ∈ z → cntU z (o ++ [m]) + 1 = cntU z o
  | [], _, h => by cases h
  | a :: r, hd, h => by
    have hd' : a.1 ∉ names r ∧ (names r).Nodup := List.nodup_cons.1 hd
    rcases List.mem_cons.1 h with e | h
    · subst e
      have o1 := cntU_other (o := o) (m := m) r (fun x hx e => hd'.1 (by rw [← e]; exact List.mem_map_of_mem hx))
      unfold cntU at o1 ⊢
      rw [List.filter_cons, List.filter_cons, names_snoc, hc]
      rw [names_snoc] at o1
      simp
      simp at o1
      omega
    · have hne : a.1 ≠ m.1 := fun e => hd'.1 (by rw [e]; exact List.mem_map_of_mem h)
      have ih := cntU_snoc hc r hd'.2 h
      unfold cntU at ih ⊢
      rw [List.filter_cons, List.filter_cons]
      have e : (names (o ++ [m])).contains a.1 = (names o).contains a.1 := by rw [names_snoc]; simp [hne]
      rw [e]
      split
      · rw [List.length_cons, List.length_cons]; omega
      · exact ih
theorem nodup_eq {z : List Mc} (hd : (names z).Nodup) : ∀ {a b : Mc}, a ∈ z → b ∈ z → a.1 = b.1 → a = b := by
  induction z with
  | nil => intro a b h; cases h
  | cons c r ih =>
    have hd' : c.1 ∉ names r ∧ (names r).Nodup := List.nodup_cons.1 hd
    intro a b ha hb e
    rcases List.mem_cons.1 ha with ha1 | ha1 <;> rcases List.mem_cons.1 hb with hb1 | hb1
    · rw [ha1, hb1]
    · exact absurd (by rw [← ha1, e]; exact List.mem_map_of_mem hb1) hd'.1
    · exact absurd (by rw [← hb1, ← e]; exact List.mem_map_of_mem ha1) hd'.1
    · exact ih hd'.2 ha1 hb1 e
theorem formR_zero : ∀ (z : List Mc) (seen : List Str), formR seen z = 0 → (names z).Nodup ∧ (∀ m ∈ z, good m.1 = true ∧ tk none m.2 ≠ none) ∧ ∀ m ∈ z, m.1 ∉ seen
  | [], seen, _ => ⟨List.nodup_nil, fun m hm => absurd hm List.not_mem_nil, fun m hm => absurd hm List.not_mem_nil⟩
  | m :: r, seen, h => by
    rw [formR] at h
    split at h
    · cases h
    · rename_i h1
      split at h
      · cases h
      · rename_i h2
        split at h
        · cases h
        · rename_i h3
          obtain ⟨a, b, c⟩ := formR_zero r _ h
          refine ⟨?_, ?_, ?_⟩
          · refine List.nodup_cons.2 ⟨fun e => ?_, a⟩
            obtain ⟨y, hy, e⟩ := List.mem_map.1 e
            exact c y hy (by rw [e]; simp)
          · intro x hx
            rcases List.mem_cons.1 hx with hx | hx
            · subst hx; exact ⟨by simpa using h1, h2⟩
            · exact b x hx
          · intro x hx
            rcases List.mem_cons.1 hx with hx | hx
            · subst hx; simpa using h3
            · exact fun e => c x hx (List.mem_append_left _ e)
/-- what holds of an order under way -/
structure OI (z o : List Mc) : Prop where
  sub : ∀ m ∈ o, m ∈ z
  ord : Ord o
  cnt : cntU z o + o.length = z.length
theorem OI.start (z : List Mc) : OI z [] := by
  refine ⟨fun m hm => absurd hm List.not_mem_nil, fun i m h => by simp at h, ?_⟩
  unfold cntU names
  simp
theorem OI.snoc {z o : List Mc} {m : Mc} (h : OI z o) (hd : (names z).Nodup) (hm : m ∈ z) (hc : (names o).contains m.1 = false) (hu : ∀ x ∈ usesR m.2, x ∈ names o) : OI z (o ++ [m]) := by
  refine ⟨fun x hx => ?_, h.ord.snoc hu, ?_⟩
  · rcases List.mem_append.1 hx with hx | hx
    · exact h.sub x hx
    · rw [List.mem_singleton.1 hx]; exact hm
  · have h1 := cntU_snoc hc z hd hm
    have h2 := h.cnt
    rw [List.length_append, List.length_singleton]; omega
theorem OI.done {z o : List Mc} (h : OI z o) (hd : (names z).Nodup) (hl : z.length ≤ o.length) : ∀ m, m ∈ o ↔ m ∈ z := by
  intro m
  refine ⟨h.sub m, fun hm => ?_⟩
  have h0 : cntU z o = 0 := by have := h.cnt; omega
  have h1 := List.filter_eq_nil_iff.1 (List.length_eq_zero_iff.1 h0) m hm
  have h2 : m.1 ∈ names o := by simpa using h1
  obtain ⟨y, hy, e⟩ := List.mem_map.1 h2
  rw [← nodup_eq hd (h.sub y hy) hm e]; exact hy
theorem OI.more {z o : List Mc} (h : OI z o) (hl : o.length < z.length) : ∃ m ∈ z, m.1 ∉ names o := by
  have h0 : cntU z o ≠ 0 := by have := h.cnt; omega
  have h1 : (z.filter fun m => !(names o).contains m.1) ≠ [] := fun e => h0 (by unfold cntU; rw [e]; rfl)
  obtain ⟨m, hm⟩ := List.exists_mem_of_ne_nil _ h1
  obtain ⟨a, b⟩ := List.mem_filter.1 hm
  exact ⟨m, a, by simpa using b⟩
def Refs (z : List Mc) : Prop := ∀ m ∈ z, ∀ x ∈ usesR m.2, x ∈ names z
def Block (o : List Mc) (m : Mc) : Prop := m.1 ∈ names o ∨ ∃ x ∈ usesR m.2, x ∉ names o
def Stuck (z : List Mc) : Prop := ∃ P : List Str, (∃ m ∈ z, m.1 ∉ P) ∧ ∀ m ∈ z, m.1 ∉ P → ∃ x ∈ usesR m.2, x ∉ P
/-- what usedFirst hands back -/
def OPost (z : List Mc) (w : World) (e : Ending) (w' : World) : Prop :=
  RowKit.Below w.heap.size w w' ∧ ((40 < z.length ∧ e = .returned (.tuple #[.slice none 0 0, .int .i64 2])) ∨ (z.length ≤ 40 ∧
    ((formR [] z ≠ 0 ∧ e = .returned (.tuple #[.slice none 0 0, .int .i64 (formR [] z)])) ∨ (formR [] z = 0 ∧
      (((∃ m ∈ z, ∃ x ∈ usesR m.2, x ∉ names z) ∧ e = .returned (.tuple #[.slice none 0 0, .int .i64 5])) ∨ (Refs z ∧
        ((Stuck z ∧ e = .returned (.tuple #[.slice none 0 0, .int .i64 8])) ∨
          ∃ o v, McIn w' v o ∧ Ord o ∧ (∀ m, m ∈ o ↔ m ∈ z) ∧ e = .returned (.tuple #[v, .int .i64 0]))))))))
end Go.Proofs.Ytoinflfibofofaa
