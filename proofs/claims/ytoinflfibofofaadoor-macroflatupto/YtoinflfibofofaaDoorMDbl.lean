/-
  Dollars doubled, macros expanded once and for all: in plain words. No condition.
-/
import Derived.Test.YtoinflfibofofaaDoorMPerm
import Derived.Test.YtoinflfibofofaaDoorMFlatC
import Derived.Lib.Replace
namespace Go.Proofs.YtoinflfibofofaaDoor
set_option linter.unusedVariables false

theorem rep_hit {old new s : Str} (h0 : old ≠ []) (hn : (old == new) = false) (h : old.isPrefixOf s = true) : Lib.replaceAll s old new = new ++ Lib.replaceAll (s.drop old.length) old new := by
  have hi : Lib.index s old = 0 := by
    cases s with
    | nil => cases old with
      | nil => exact absurd rfl h0
      | cons _ _ => simp [List.isPrefixOf] at h
    | cons c r => rw [Lib.index, h]; simp
  have hc := Lib.count_hit (i := 0) h0 (by simpa using hi)
  unfold Lib.replaceAll Lib.replace Lib.replaceNum
  rw [hn]
  simp only [Bool.false_eq_true, if_false, show ((-1 : Int) < 0) from by decide, true_or, if_true]
  rw [hc, Nat.add_comm, Lib.replaceK_hit old new _ s 0 (by simpa using hi)]
  simp
theorem rep_miss {old new r : Str} {c : UInt8} (h0 : old ≠ []) (hn : (old == new) = false) (h : old.isPrefixOf (c :: r) = false) : Lib.replaceAll (c :: r) old new = c :: Lib.replaceAll r old new := by
  have hi : Lib.index (c :: r) old = if Lib.index r old == -1 then -1 else Lib.index r old + 1 := by rw [Lib.index, h]; simp
  unfold Lib.replaceAll Lib.replace Lib.replaceNum
  rw [hn]
  simp only [Bool.false_eq_true, if_false, show ((-1 : Int) < 0) from by decide, true_or, if_true]
  by_cases hm : Lib.index r old = -1
  · rw [Lib.count_miss hm, Lib.count_miss (by rw [hi, hm]; rfl)]; rfl
  · obtain ⟨i, hr⟩ : ∃ i : Nat, Lib.index r old = i := ⟨(Lib.index r old).toNat, by have := Lib.index_ge r old; omega⟩
    have e1 : ((i : Int) == -1) = false := by apply beq_false_of_ne; omega
    have hi' : Lib.index (c :: r) old = ((i + 1 : Nat) : Int) := by rw [hi, hr, e1]; simp
    rw [Lib.count_hit h0 hr, Lib.count_hit h0 hi', Nat.add_comm 1 (Lib.count (List.drop (i + List.length old) r) old), Nat.add_comm 1 (Lib.count (List.drop (i + 1 + List.length old) (c :: r)) old), Lib.replaceK_hit old new _ r i hr, Lib.replaceK_hit old new _ (c :: r) (i + 1) hi']
    simp [Nat.add_right_comm]
theorem rep_nil (old new : Str) (h0 : old ≠ []) : Lib.replaceAll [] old new = [] := by
  have hi : Lib.index [] old = -1 := by cases old with
    | nil => exact absurd rfl h0
    | cons _ _ => rfl
  unfold Lib.replaceAll Lib.replace Lib.replaceNum
  split
  · rfl
  · simp [Lib.count_miss hi, Lib.replaceK]
def dbl : Str → Str
  | [] => []
  | c :: r => if c = 36 then 36 :: 36 :: dbl r else c :: dbl r
theorem dbl_le : ∀ s : Str, (dbl s).length ≤ 2 * s.length
  | [] => Nat.zero_le _
  | c :: r => by
    have := dbl_le r
    rw [dbl]
    split
    · rw [List.length_cons, List.length_cons, List.length_cons]; omega
    · rw [List.length_cons, List.length_cons]; omega
theorem dbl_lib : ∀ s : Str, Lib.replaceAll s [36] [36, 36] = dbl s
  | [] => by rw [rep_nil _ _ (by decide)]; rfl
  | c :: r => by
    by_cases h : c = 36
    · subst h
      rw [rep_hit (by decide) (by decide) (by simp [List.isPrefixOf]), dbl, if_pos rfl]
      show [36, 36] ++ Lib.replaceAll r [36] [36, 36] = _
      rw [dbl_lib r]; rfl
    · rw [rep_miss (by decide) (by decide) (by simp [List.isPrefixOf]; exact fun e => h e.symm), dbl, if_neg h, dbl_lib r]
theorem tk_dbl : ∀ s : Str, tk none (dbl s) = some (s.map Sum.inl)
  | [] => rfl
  | c :: r => by
    rw [dbl]
    by_cases h : c = 36
    · subst h
      rw [if_pos rfl, tk_dollar, tk_two, tk_dbl r]; rfl
    · rw [if_neg h]
      simp only [tk]
      rw [if_neg h, tk_dbl r]; rfl
theorem sub_bytes (g : Str → Option Str) : ∀ a : Str, sub g (a.map Sum.inl) = some a
  | [] => rfl
  | c :: r => by rw [List.map_cons, sub, sub_bytes g r]; rfl
def quoL (f : Str → Option Str) (z : List Mc) : List Mc := z.map fun m => (m.1, dbl ((f m.1).getD []))
theorem quo_names (f : Str → Option Str) (z : List Mc) : names (quoL f z) = names z := by
  unfold names quoL; rw [List.map_map]; rfl
theorem FE.get {z o : List Mc} {f : Str → Option Str} (h : FE z o f) (ho : ∀ m, m ∈ o ↔ m ∈ z) {m : Mc} (hm : m ∈ z) : ∃ t, f m.1 = .some t ∧ t.length ≤ 2000 := by
  have : (f m.1).isSome = true := by rw [h.mem ho, List.contains_iff_mem]; exact List.mem_map_of_mem hm
  obtain ⟨t, ht⟩ := Option.isSome_iff_exists.1 this
  obtain ⟨j, hj⟩ := h.val
  exact ⟨t, ht, (hj _ _ ht).2⟩
theorem FE.quo {z o : List Mc} {f : Str → Option Str} (h : FE z o f) (ho : ∀ m, m ∈ o ↔ m ∈ z) (F : Fine z) {x t : Str} (hx : f x = .some t) : ev (quoL f z) 1 x = .some t := by
  have hxn : x ∈ names z := by have := h.mem ho x; rw [hx] at this; exact List.contains_iff_mem.1 this.symm
  obtain ⟨m, hm, rfl⟩ := List.mem_map.1 hxn
  have hd : (names (quoL f z)).Nodup := by rw [quo_names]; exact F.2.1
  have hq : (m.1, dbl ((f m.1).getD [])) ∈ quoL f z := List.mem_map_of_mem (f := fun m : Mc => (m.1, dbl ((f m.1).getD []))) hm
  have hl := look_of hd hq
  obtain ⟨t', e1, e2⟩ := h.get ho hm
  rw [hx] at e1
  cases e1
  rw [ev]
  rw [show look (quoL f z) m.1 = .some (dbl ((f m.1).getD [])) from hl, Option.bind_some, hx]
  exact val_mk (tk_dbl _) (sub_bytes _ _) e2
theorem FE.quo_fine {z o : List Mc} {f : Str → Option Str} (h : FE z o f) (ho : ∀ m, m ∈ o ↔ m ∈ z) (F : Fine z) : Fine (quoL f z) := by
  refine ⟨by unfold quoL; rw [List.length_map]; exact F.1, by rw [show List.map (·.1) (quoL f z) = names (quoL f z) from rfl, quo_names]; exact F.2.1, fun m hm => ?_, 1, fun m hm => ?_⟩
  · obtain ⟨y, hy, rfl⟩ := List.mem_map.1 hm
    exact F.2.2.1 y hy
  · obtain ⟨y, hy, rfl⟩ := List.mem_map.1 hm
    obtain ⟨t, ht, _⟩ := h.get ho hy
    show (ev (quoL f z) 1 y.1).isSome = true
    rw [h.quo ho F ht]; rfl
theorem FE.in {z o : List Mc} {f : Str → Option Str} (h : FE z o f) (ho : ∀ m, m ∈ o ↔ m ∈ z) {k : Nat} {x t : Str} (e : ev z k x = .some t) : f x = .some t := by
  obtain ⟨_, y, _, _, hm, _⟩ := ev_some e
  obtain ⟨u, hu, _⟩ := h.get ho hm
  obtain ⟨j, hj⟩ := h.val
  rw [ev_one z e (hj _ _ hu).1]; exact hu
theorem FE.back {z o : List Mc} {f : Str → Option Str} (h : FE z o f) (ho : ∀ m, m ∈ o ↔ m ∈ z) (F : Fine z) {k : Nat} {x t : Str} (e : ev (quoL f z) k x = .some t) : f x = .some t := by
  obtain ⟨_, y, _, _, hm, _⟩ := ev_some e
  obtain ⟨m, hm2, e2⟩ := List.mem_map.1 hm
  have hx : m.1 = x := congrArg Prod.fst e2
  obtain ⟨u, hu, _⟩ := h.get ho hm2
  rw [hx] at hu
  rw [ev_one _ e (h.quo ho F hu)]; exact hu
theorem FE.exp_quo {z o : List Mc} {f : Str → Option Str} (h : FE z o f) (ho : ∀ m, m ∈ o ↔ m ∈ z) {s t : Str} : Exp z s t → Exp (quoL f z) s t := by
  rintro ⟨F, k, e⟩
  exact ⟨h.quo_fine ho F, 1, val_mono (fun n u hn => h.quo ho F (h.in ho hn)) e⟩
theorem FE.quo_exp {z o : List Mc} {f : Str → Option Str} (h : FE z o f) (ho : ∀ m, m ∈ o ↔ m ∈ z) (F : Fine z) {s t : Str} : Exp (quoL f z) s t → Exp z s t := by
  rintro ⟨_, k, e⟩
  obtain ⟨j, hj⟩ := h.val
  exact ⟨F, j, val_mono (fun n u hn => (hj n u (h.back ho F hn)).1) e⟩
theorem err_same {z y : List Mc} {s : Str} {E G : Int} (Fz : Fine z) (Fy : Fine y) (hn : names y = names z) (h1 : EErr z s E) (h2 : EErr y s G) : E = G := by
  rcases h1 with h1 | ⟨_, (⟨a, rfl⟩ | ⟨T, a, h1⟩)⟩
  · exact absurd Fz h1.bad.1
  · rcases h2 with h2 | ⟨_, (⟨b, rfl⟩ | ⟨U, b, h2⟩)⟩
    · exact absurd Fy h2.bad.1
    · rfl
    · rw [a] at b; cases b
  · rcases h2 with h2 | ⟨_, (⟨b, rfl⟩ | ⟨U, b, h2⟩)⟩
    · exact absurd Fy h2.bad.1
    · rw [a] at b; cases b
    · rw [a] at b
      cases b
      rw [hn] at h2
      rcases h1 with ⟨⟨x, hx, hxn⟩, rfl⟩ | ⟨h1, _, rfl⟩ <;> rcases h2 with ⟨⟨x', hx', hxn'⟩, rfl⟩ | ⟨h2, _, rfl⟩
      · rfl
      · exact absurd (h2 x hx) hxn
      · exact absurd (h1 x' hx') hxn'
      · rfl
theorem flat_quo {z o o' : List Mc} {f f' : Str → Option Str} (h : FE z o f) (ho : ∀ m, m ∈ o ↔ m ∈ z) (F : Fine z) (h' : FE (quoL f z) o' f') (ho' : ∀ m, m ∈ o' ↔ m ∈ quoL f z) : flatL f' (quoL f z) = flatL f z := by
  unfold flatL
  rw [show quoL f z = z.map fun m => (m.1, dbl ((f m.1).getD [])) from rfl, List.map_map]
  refine List.map_congr_left fun m hm => ?_
  show (m.1, (f' m.1).getD []) = _
  obtain ⟨t, ht, _⟩ := h.get ho hm
  rw [h'.in ho' (h.quo ho F ht), ht]
end Go.Proofs.YtoinflfibofofaaDoor
