/-
  Macros that have a fault have no expansions: in plain words. No condition.
-/
import Derived.Test.YtoinflfibofofaaMOrd
namespace Go.Proofs.Ytoinflfibofofaa
set_option linter.unusedVariables false

theorem look_mem {z : List Mc} {x v : Str} (h : look z x = some v) : (x, v) ∈ z := by
  unfold look at h
  cases e : z.find? fun m => m.1 == x with
  | none => rw [e] at h; cases h
  | some m =>
    rw [e] at h
    cases h
    have h1 := List.mem_of_find?_eq_some e
    have h2 := List.find?_some e
    have h3 : m.1 = x := by simpa using h2
    rw [← h3]; exact h1
theorem look_of {z : List Mc} (hd : (names z).Nodup) {m : Mc} (hm : m ∈ z) : look z m.1 = some m.2 := by
  unfold look
  cases e : z.find? fun m' => m'.1 == m.1 with
  | none => have := List.find?_eq_none.1 e m hm; simp at this
  | some m' =>
    have h1 := List.mem_of_find?_eq_some e
    have h2 := List.find?_some e
    have h3 : m'.1 = m.1 := by simpa using h2
    rw [nodup_eq hd h1 hm h3]; rfl
theorem ev_some {z : List Mc} {k : Nat} {x t : Str} (h : ev z k x = some t) : ∃ j y T, k = j + 1 ∧ (x, y) ∈ z ∧ look z x = some y ∧ tk none y = some T ∧ sub (ev z j) T = some t ∧ t.length ≤ 2000 := by
  cases k with
  | zero => cases h
  | succ j =>
    rw [ev] at h
    cases hl : look z x with
    | none => rw [hl] at h; cases h
    | some y =>
      rw [hl, Option.bind_some] at h
      obtain ⟨T, h1, h2, h3⟩ := val_some h
      exact ⟨j, y, T, rfl, look_mem hl, rfl, h1, h2, h3⟩
theorem usesR_of {s : Str} {T : List Tok} (h : tk none s = some T) : usesR s = dd T := by unfold usesR; rw [h]
theorem formR_of : ∀ (z : List Mc) (seen : List Str), (names z).Nodup → (∀ m ∈ z, good m.1 = true ∧ tk none m.2 ≠ none) → (∀ m ∈ z, m.1 ∉ seen) → formR seen z = 0
  | [], _, _, _, _ => rfl
  | m :: r, seen, hd, hg, hs => by
    have hd' : m.1 ∉ names r ∧ (names r).Nodup := List.nodup_cons.1 hd
    have h1 := hg m List.mem_cons_self
    have h2 := hs m List.mem_cons_self
    rw [formR, if_neg (by rw [h1.1]; decide), if_neg h1.2, if_neg (by simpa using h2)]
    refine formR_of r _ hd'.2 (fun x hx => hg x (List.mem_cons_of_mem _ hx)) (fun x hx e => ?_)
    rcases List.mem_append.1 e with e | e
    · exact hs x (List.mem_cons_of_mem _ hx) e
    · exact hd'.1 (by rw [← List.mem_singleton.1 e]; exact List.mem_map_of_mem hx)
theorem Fine.form {z : List Mc} (h : Fine z) : formR [] z = 0 := by
  obtain ⟨_, hd, hg, k, hk⟩ := h
  refine formR_of z [] hd (fun m hm => ⟨hg m hm, fun e => ?_⟩) (fun m _ => List.not_mem_nil)
  obtain ⟨t, ht⟩ := Option.isSome_iff_exists.1 (hk m hm)
  obtain ⟨j, y, T, _, _, h1, h2, _⟩ := ev_some ht
  rw [look_of hd hm] at h1
  cases h1
  rw [e] at h2; cases h2
theorem Fine.refs {z : List Mc} (h : Fine z) : Refs z := by
  obtain ⟨_, hd, hg, k, hk⟩ := h
  intro m hm x hx
  obtain ⟨t, ht⟩ := Option.isSome_iff_exists.1 (hk m hm)
  obtain ⟨j, y, T, _, _, h1, h2, h3, _⟩ := ev_some ht
  rw [look_of hd hm] at h1
  cases h1
  rw [usesR_of h2, mem_dd] at hx
  obtain ⟨u, hu⟩ := sub_some T t h3 x hx
  obtain ⟨_, y', _, _, h4, _⟩ := ev_some hu
  exact List.mem_map_of_mem h4
theorem Fine.free {z : List Mc} (h : Fine z) : ¬ Stuck z := by
  obtain ⟨_, hd, hg, k, hk⟩ := h
  rintro ⟨P, ⟨m0, hm0, hp0⟩, hP⟩
  have key : ∀ (k : Nat) (m : Mc), m ∈ z → m.1 ∉ P → ev z k m.1 = none := by
    intro k
    induction k with
    | zero => intro m _ _; rfl
    | succ k ih =>
      intro m hm hp
      cases e : ev z (k + 1) m.1 with
      | none => rfl
      | some t =>
        obtain ⟨j, y, T, hj, _, h1, h2, h3, _⟩ := ev_some e
        rw [look_of hd hm] at h1
        cases h1
        obtain ⟨x, hx, hxp⟩ := hP m hm hp
        rw [usesR_of h2, mem_dd] at hx
        obtain ⟨u, hu⟩ := sub_some T t h3 x hx
        obtain rfl : j = k := by omega
        obtain ⟨_, y', _, _, h4, _⟩ := ev_some hu
        rw [ih (x, y') h4 hxp] at hu
        cases hu
  have := hk m0 hm0
  rw [key k m0 hm0 hp0] at this
  cases this

/-- which error macros without expansions have -/
def XErr (z : List Mc) (E : Int) : Prop :=
  (40 < z.length ∧ E = 2) ∨ (z.length ≤ 40 ∧ ((formR [] z ≠ 0 ∧ E = formR [] z) ∨ (formR [] z = 0 ∧ (((∃ m ∈ z, ∃ x ∈ usesR m.2, x ∉ names z) ∧ E = 5) ∨ (Refs z ∧ ((Stuck z ∧ E = 8) ∨ ((∃ o, Ord o ∧ ∀ m, m ∈ o ↔ m ∈ z) ∧ E = 2 ∧ ¬ Fine z)))))))
theorem XErr.bad {z : List Mc} {E : Int} (h : XErr z E) : ¬ Fine z ∧ E ≠ 0 := by
  rcases h with ⟨h, rfl⟩ | ⟨_, (⟨h, rfl⟩ | ⟨_, (⟨⟨m, hm, x, hx, hn⟩, rfl⟩ | ⟨_, (⟨h, rfl⟩ | ⟨_, rfl, h⟩)⟩)⟩)⟩
  · exact ⟨fun F => by have := F.1; omega, by decide⟩
  · exact ⟨fun F => h F.form, h⟩
  · exact ⟨fun F => hn (F.refs m hm x hx), by decide⟩
  · exact ⟨fun F => F.free h, by decide⟩
  · exact ⟨h, by decide⟩

/-- f holds the expansions of l's names, as z has them -/
structure FE (z l : List Mc) (f : Str → Option Str) : Prop where
  some : ∀ x, (f x).isSome = (names l).contains x
  val : ∃ j, ∀ x t, f x = .some t → ev z j x = .some t ∧ t.length ≤ 2000
def updS (f : Str → Option Str) (x t : Str) : Str → Option Str := fun s => if s = x then some t else f s
theorem FE.subs {z l : List Mc} {f : Str → Option Str} (h : FE z l f) {y : Str} {T : List Tok} (hT : tk none y = .some T) (hy : ∀ x ∈ usesR y, x ∈ names l) : sub f T = .some (subD f T) := by
  refine sub_all T fun n hn => ?_
  rw [h.some n, List.contains_iff_mem]
  exact hy n (by rw [usesR_of hT, mem_dd]; exact hn)
theorem FE.step {z l : List Mc} {f : Str → Option Str} (h : FE z l f) (hd : (names z).Nodup) {x y : Str} {T : List Tok} (hm : (x, y) ∈ z) (hT : tk none y = .some T) (hy : ∀ n ∈ usesR y, n ∈ names l) (hl : (subD f T).length ≤ 2000) :
    FE z (l ++ [(x, y)]) (updS f x (subD f T)) := by
  have hs := h.subs hT hy
  obtain ⟨j, hj⟩ := h.val
  refine ⟨fun s => ?_, j + 1, fun s t e => ?_⟩
  · rw [names_snoc]
    unfold updS
    by_cases he : s = x
    · subst he; simp
    · rw [if_neg he, h.some s]; simp [he]
  · unfold updS at e
    by_cases he : s = x
    · subst he
      rw [if_pos rfl] at e
      cases e
      refine ⟨?_, hl⟩
      rw [ev, look_of hd hm, Option.bind_some]
      exact val_mk hT (sub_mono (fun n t e => (hj n t e).1) T _ hs) hl
    · rw [if_neg he] at e
      exact ⟨ev_step z j s t (hj s t e).1, (hj s t e).2⟩
theorem FE.large {z l : List Mc} {f : Str → Option Str} (h : FE z l f) (hd : (names z).Nodup) {x y : Str} {T : List Tok} (hm : (x, y) ∈ z) (hT : tk none y = .some T) (hy : ∀ n ∈ usesR y, n ∈ names l) (hl : 2000 < (subD f T).length) : ¬ Fine z := by
  rintro ⟨_, _, _, k, hk⟩
  have hs := h.subs hT hy
  obtain ⟨j, hj⟩ := h.val
  obtain ⟨t, ht⟩ := Option.isSome_iff_exists.1 (hk _ hm)
  obtain ⟨i, y', T', _, _, h1, h2, h3, h4⟩ := ev_some ht
  rw [look_of hd hm] at h1
  cases h1
  rw [hT] at h2
  cases h2
  have a := sub_mono (fun n t e => ev_mono z (Nat.le_max_left j i) (hj n t e).1) T _ hs
  have b := sub_mono (fun n t e => ev_mono z (Nat.le_max_right j i) e) T _ h3
  rw [a] at b
  cases b
  omega
theorem FE.start (z : List Mc) : FE z [] (fun _ => none) := ⟨fun _ => rfl, 0, fun x t e => by cases e⟩
theorem FE.fine {z o : List Mc} {f : Str → Option Str} (h : FE z o f) (hn : z.length ≤ 40) (h0 : formR [] z = 0) (ho : ∀ m, m ∈ o ↔ m ∈ z) : Fine z := by
  obtain ⟨a, b, _⟩ := formR_zero z [] h0
  obtain ⟨j, hj⟩ := h.val
  refine ⟨hn, a, fun m hm => (b m hm).1, j, fun m hm => ?_⟩
  have : (f m.1).isSome = true := by rw [h.some, List.contains_iff_mem]; exact List.mem_map_of_mem ((ho m).2 hm)
  obtain ⟨t, ht⟩ := Option.isSome_iff_exists.1 this
  rw [(hj _ _ ht).1]; rfl
theorem FE.mem {z o : List Mc} {f : Str → Option Str} (h : FE z o f) (ho : ∀ m, m ∈ o ↔ m ∈ z) (x : Str) : (f x).isSome = (names z).contains x := by
  rw [h.some, Bool.eq_iff_iff, List.contains_iff_mem, List.contains_iff_mem]
  constructor
  · intro e; obtain ⟨m, hm, e⟩ := List.mem_map.1 e; rw [← e]; exact List.mem_map_of_mem ((ho m).1 hm)
  · intro e; obtain ⟨m, hm, e⟩ := List.mem_map.1 e; rw [← e]; exact List.mem_map_of_mem ((ho m).2 hm)

/-- which error an expansion has -/
def EErr (z : List Mc) (s : Str) (E : Int) : Prop :=
  XErr z E ∨ (Fine z ∧ ((tk none s = none ∧ E = 3) ∨ ∃ T, tk none s = some T ∧ (((∃ x ∈ dd T, x ∉ names z) ∧ E = 5) ∨ ((∀ x ∈ dd T, x ∈ names z) ∧ (∀ t, ¬ Exp z s t) ∧ E = 2))))
theorem EErr.bad {z : List Mc} {s : Str} {E : Int} (h : EErr z s E) : (∀ t, ¬ Exp z s t) ∧ E ≠ 0 := by
  rcases h with h | ⟨F, (⟨h, rfl⟩ | ⟨T, hT, (⟨⟨x, hx, hn⟩, rfl⟩ | ⟨_, h, rfl⟩)⟩)⟩
  · exact ⟨fun t e => h.bad.1 e.1, h.bad.2⟩
  · refine ⟨fun t e => ?_, by decide⟩
    obtain ⟨_, k, e⟩ := e
    obtain ⟨T, e, _⟩ := val_some e
    rw [h] at e; cases e
  · refine ⟨fun t e => ?_, by decide⟩
    obtain ⟨_, k, e⟩ := e
    obtain ⟨T', e, e2, _⟩ := val_some e
    rw [hT] at e; cases e
    obtain ⟨u, hu⟩ := sub_some T t e2 x ((mem_dd x T).1 hx)
    obtain ⟨_, y, _, _, h4, _⟩ := ev_some hu
    exact hn (List.mem_map_of_mem h4)
  · exact ⟨h, by decide⟩
theorem FE.exp {z o : List Mc} {f : Str → Option Str} (h : FE z o f) (F : Fine z) (ho : ∀ m, m ∈ o ↔ m ∈ z) {s : Str} {T : List Tok} (hT : tk none s = .some T) (hy : ∀ n ∈ dd T, n ∈ names z) (hl : (subD f T).length ≤ 2000) : Exp z s (subD f T) := by
  have hs : sub f T = .some (subD f T) := sub_all T fun n hn => by
    rw [h.mem ho, List.contains_iff_mem]; exact hy n ((mem_dd n T).2 hn)
  obtain ⟨j, hj⟩ := h.val
  exact ⟨F, j, val_mk hT (sub_mono (fun n t e => (hj n t e).1) T _ hs) hl⟩
theorem FE.noexp {z o : List Mc} {f : Str → Option Str} (h : FE z o f) (ho : ∀ m, m ∈ o ↔ m ∈ z) {s : Str} {T : List Tok} (hT : tk none s = .some T) (hy : ∀ n ∈ dd T, n ∈ names z) (hl : 2000 < (subD f T).length) (t : Str) : ¬ Exp z s t := by
  rintro ⟨_, k, e⟩
  have hs : sub f T = .some (subD f T) := sub_all T fun n hn => by
    rw [h.mem ho, List.contains_iff_mem]; exact hy n ((mem_dd n T).2 hn)
  obtain ⟨j, hj⟩ := h.val
  obtain ⟨T', e1, e2, e3⟩ := val_some e
  rw [hT] at e1; cases e1
  have a := sub_mono (fun n t e => ev_mono z (Nat.le_max_left j k) (hj n t e).1) T _ hs
  have b := sub_mono (fun n t e => ev_mono z (Nat.le_max_right j k) e) T _ e2
  rw [a] at b
  cases b
  omega
end Go.Proofs.Ytoinflfibofofaa
