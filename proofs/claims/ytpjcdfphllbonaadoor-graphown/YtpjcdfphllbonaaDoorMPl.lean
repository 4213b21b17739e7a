/-
  Macros in plain words: how a string is read (tk), what replaces its references (sub, val, ev). No condition.
-/
import Derived.Test.YtpjcdfphllbonaaDoorNm
namespace Go.Proofs.YtpjcdfphllbonaaDoor
set_option maxRecDepth 100000
set_option linter.unusedVariables false

abbrev Mc := Str × Str
/-- a byte that stands for itself, or the name of a reference -/
abbrev Tok := UInt8 ⊕ Str

/-- none: outside; some none: behind a dollar; some (some a): in the parentheses, behind a -/
def tk : Option (Option Str) → Str → Option (List Tok)
  | none, [] => some []
  | some _, [] => none
  | none, c :: r => if c = 36 then tk (some none) r else (tk none r).map (Sum.inl c :: ·)
  | some none, c :: r => if c = 36 then (tk none r).map (Sum.inl 36 :: ·) else if c = 40 then tk (some (some [])) r else none
  | some (some a), c :: r => if c = 41 then (if good a then (tk none r).map (Sum.inr a :: ·) else none) else tk (some (some (a ++ [c]))) r

theorem tk_append (t : Str) (b : List Tok) (hb : tk none t = some b) : ∀ (s : Str) (m : Option (Option Str)) (a : List Tok), tk m s = some a → tk m (s ++ t) = some (a ++ b)
  | [], none, a, h => by
    simp only [tk, Option.some.injEq] at h; subst h; simpa using hb
  | [], some _, a, h => by simp [tk] at h
  | c :: r, none, a, h => by
    rw [List.cons_append]
    simp only [tk] at h ⊢
    by_cases hc : c = 36
    · rw [if_pos hc] at h ⊢; exact tk_append t b hb r _ a h
    · rw [if_neg hc] at h ⊢
      cases hr : tk none r with
      | none => rw [hr] at h; cases h
      | some x => rw [hr] at h; cases h; rw [tk_append t b hb r _ x hr]; rfl
  | c :: r, some none, a, h => by
    rw [List.cons_append]
    simp only [tk] at h ⊢
    by_cases hc : c = 36
    · rw [if_pos hc] at h ⊢
      cases hr : tk none r with
      | none => rw [hr] at h; cases h
      | some x => rw [hr] at h; cases h; rw [tk_append t b hb r _ x hr]; rfl
    · rw [if_neg hc] at h ⊢
      by_cases hd : c = 40
      · rw [if_pos hd] at h ⊢; exact tk_append t b hb r _ a h
      · rw [if_neg hd] at h; cases h
  | c :: r, some (some y), a, h => by
    rw [List.cons_append]
    simp only [tk] at h ⊢
    by_cases hc : c = 41
    · rw [if_pos hc] at h ⊢
      by_cases hg : good y = true
      · rw [if_pos hg] at h ⊢
        cases hr : tk none r with
        | none => rw [hr] at h; cases h
        | some x => rw [hr] at h; cases h; rw [tk_append t b hb r _ x hr]; rfl
      · rw [if_neg hg] at h; cases h
    · rw [if_neg hc] at h ⊢; exact tk_append t b hb r _ a h

theorem tk_plain (s : Str) : ∀ a : Str, 36 ∉ a → tk none (a ++ s) = (tk none s).map (a.map Sum.inl ++ ·)
  | [], _ => by cases h : tk none s <;> simp [h]
  | c :: r, h => by
    rw [List.cons_append]
    simp only [tk]
    rw [if_neg (fun e => h (by rw [e]; exact List.mem_cons_self)), tk_plain s r (fun e => h (List.mem_cons_of_mem _ e))]
    cases h : tk none s <;> simp
theorem tk_flat (a : Str) (h : 36 ∉ a) : tk none a = some (a.map Sum.inl) := by
  have := tk_plain [] a h
  rw [List.append_nil] at this; rw [this]; simp [tk]
theorem tk_dollar (s : Str) : tk none (36 :: s) = tk (some none) s := by simp [tk]
theorem tk_two (s : Str) : tk (some none) (36 :: s) = (tk none s).map ([Sum.inl 36] ++ ·) := by simp [tk]
theorem tk_in (r : Str) : ∀ (a b : Str), 41 ∉ a → tk (some (some b)) (a ++ 41 :: r) = if good (b ++ a) then (tk none r).map ([Sum.inr (b ++ a)] ++ ·) else none
  | [], b, _ => by simp [tk]
  | c :: a, b, h => by
    rw [List.cons_append]
    simp only [tk]
    rw [if_neg (fun e => h (by rw [e]; exact List.mem_cons_self)), tk_in r a _ (fun e => h (List.mem_cons_of_mem _ e)), List.append_assoc]
    rfl
theorem tk_open : ∀ (a b : Str), 41 ∉ a → tk (some (some b)) a = none
  | [], b, _ => by simp [tk]
  | c :: a, b, h => by
    simp only [tk]
    rw [if_neg (fun e => h (by rw [e]; exact List.mem_cons_self)), tk_open a _ (fun e => h (List.mem_cons_of_mem _ e))]
theorem tk_par (s : Str) : tk (some none) (40 :: s) = tk (some (some [])) s := by simp [tk]
theorem tk_bad : ∀ (s : Str), [36].isPrefixOf s = false → [40].isPrefixOf s = false → tk (some none) s = none
  | [], _, _ => by simp [tk]
  | c :: r, h, g => by
    simp only [tk]
    have h1 : c ≠ 36 := by rintro rfl; simp [List.isPrefixOf] at h
    have h2 : c ≠ 40 := by rintro rfl; simp [List.isPrefixOf] at g
    rw [if_neg h1, if_neg h2]

/-! what the references are replaced by -/
def sub (g : Str → Option Str) : List Tok → Option Str
  | [] => some []
  | .inl c :: r => (sub g r).map (c :: ·)
  | .inr n :: r => (g n).bind fun u => (sub g r).map (u ++ ·)
theorem sub_append (g : Str → Option Str) : ∀ a b : List Tok, sub g (a ++ b) = (sub g a).bind fun x => (sub g b).map (x ++ ·)
  | [], b => by cases h : sub g b <;> simp [sub, h]
  | .inl c :: r, b => by
    rw [List.cons_append]; simp only [sub]; rw [sub_append g r b]
    cases sub g r <;> cases sub g b <;> rfl
  | .inr n :: r, b => by
    rw [List.cons_append]; simp only [sub]; rw [sub_append g r b]
    cases g n <;> cases sub g r <;> cases sub g b <;> simp
theorem sub_mono {g h : Str → Option Str} (H : ∀ n t, g n = some t → h n = some t) : ∀ (T : List Tok) (t : Str), sub g T = some t → sub h T = some t
  | [], t, e => e
  | .inl c :: r, t, e => by
    simp only [sub] at e ⊢
    cases hr : sub g r with
    | none => rw [hr] at e; cases e
    | some x => rw [hr] at e; rw [sub_mono H r x hr]; exact e
  | .inr n :: r, t, e => by
    simp only [sub] at e ⊢
    cases hn : g n with
    | none => rw [hn] at e; cases e
    | some u =>
      rw [hn] at e; rw [H n u hn]
      cases hr : sub g r with
      | none => rw [hr] at e; cases e
      | some x => rw [hr] at e; rw [sub_mono H r x hr]; exact e
theorem sub_congr {g h : Str → Option Str} : ∀ (T : List Tok), (∀ n, Sum.inr n ∈ T → g n = h n) → sub g T = sub h T
  | [], _ => rfl
  | .inl c :: r, H => by simp only [sub]; rw [sub_congr r (fun n hn => H n (List.mem_cons_of_mem _ hn))]
  | .inr n :: r, H => by simp only [sub]; rw [sub_congr r (fun n hn => H n (List.mem_cons_of_mem _ hn)), H n List.mem_cons_self]
theorem sub_some {g : Str → Option Str} : ∀ (T : List Tok) (t : Str), sub g T = some t → ∀ n, Sum.inr n ∈ T → ∃ u, g n = some u
  | [], _, _, n, hn => by cases hn
  | .inl c :: r, t, e, n, hn => by
    simp only [sub] at e
    cases hr : sub g r with
    | none => rw [hr] at e; cases e
    | some x => cases hn with
      | tail _ hn => exact sub_some r x hr n hn
  | .inr m :: r, t, e, n, hn => by
    simp only [sub] at e
    cases hm : g m with
    | none => rw [hm] at e; cases e
    | some u =>
      rw [hm] at e
      cases hr : sub g r with
      | none => rw [hr] at e; cases e
      | some x => cases hn with
        | head => exact ⟨u, hm⟩
        | tail _ hn => exact sub_some r x hr n hn

/-- the expansion, what has none left out -/
def subD (g : Str → Option Str) : List Tok → Str
  | [] => []
  | .inl c :: r => c :: subD g r
  | .inr n :: r => (g n).getD [] ++ subD g r
theorem subD_append (g : Str → Option Str) : ∀ a b : List Tok, subD g (a ++ b) = subD g a ++ subD g b
  | [], b => rfl
  | .inl c :: r, b => by rw [List.cons_append]; simp only [subD]; rw [subD_append g r b]; rfl
  | .inr n :: r, b => by rw [List.cons_append]; simp only [subD]; rw [subD_append g r b, List.append_assoc]
theorem subD_bytes (g : Str → Option Str) : ∀ a : Str, subD g (a.map Sum.inl) = a
  | [] => rfl
  | c :: r => by rw [List.map_cons]; simp only [subD]; rw [subD_bytes g r]
theorem sub_all {g : Str → Option Str} : ∀ (T : List Tok), (∀ n, Sum.inr n ∈ T → (g n).isSome = true) → sub g T = some (subD g T)
  | [], _ => rfl
  | .inl c :: r, H => by simp only [sub, subD]; rw [sub_all r (fun n hn => H n (List.mem_cons_of_mem _ hn))]; rfl
  | .inr n :: r, H => by
    simp only [sub, subD]; rw [sub_all r (fun n hn => H n (List.mem_cons_of_mem _ hn))]
    cases h : g n with
    | none => have := H n List.mem_cons_self; rw [h] at this; cases this
    | some u => rfl

def val (g : Str → Option Str) (s : Str) : Option Str := ((tk none s).bind (sub g)).bind fun t => if t.length ≤ 2000 then some t else none
theorem val_some {g : Str → Option Str} {s t : Str} (h : val g s = some t) : ∃ T, tk none s = some T ∧ sub g T = some t ∧ t.length ≤ 2000 := by
  unfold val at h
  cases hT : tk none s with
  | none => rw [hT] at h; cases h
  | some T =>
    rw [hT] at h
    cases hs : sub g T with
    | none => rw [Option.bind_some, hs] at h; cases h
    | some x =>
      rw [Option.bind_some, hs, Option.bind_some] at h
      split at h
      · cases h; exact ⟨T, rfl, hs, by assumption⟩
      · cases h
theorem val_mk {g : Str → Option Str} {s t : Str} {T : List Tok} (h1 : tk none s = some T) (h2 : sub g T = some t) (h3 : t.length ≤ 2000) : val g s = some t := by
  unfold val; rw [h1, Option.bind_some, h2, Option.bind_some, if_pos h3]
theorem val_mono {g h : Str → Option Str} (H : ∀ n t, g n = some t → h n = some t) {s t : Str} (e : val g s = some t) : val h s = some t := by
  obtain ⟨T, h1, h2, h3⟩ := val_some e
  exact val_mk h1 (sub_mono H T t h2) h3

def look (l : List Mc) (n : Str) : Option Str := (l.find? fun m => m.1 == n).map (·.2)
def ev (l : List Mc) : Nat → Str → Option Str
  | 0, _ => none
  | k + 1, n => (look l n).bind (val (ev l k))
theorem ev_step (l : List Mc) : ∀ (k : Nat) (n t : Str), ev l k n = some t → ev l (k + 1) n = some t
  | 0, n, t, h => by cases h
  | k + 1, n, t, h => by
    rw [ev] at h ⊢
    cases hl : look l n with
    | none => rw [hl] at h; cases h
    | some v => rw [hl] at h; rw [Option.bind_some] at h ⊢; exact val_mono (ev_step l k) h
theorem ev_mono (l : List Mc) {k j : Nat} (hk : k ≤ j) {n t : Str} (h : ev l k n = some t) : ev l j n = some t := by
  induction hk with
  | refl => exact h
  | step _ ih => exact ev_step l _ n t ih
theorem ev_one (l : List Mc) {k j : Nat} {n t u : Str} (h : ev l k n = some t) (g : ev l j n = some u) : t = u := by
  have a := ev_mono l (Nat.le_max_left k j) h
  have b := ev_mono l (Nat.le_max_right k j) g
  rw [a] at b; exact Option.some.inj b

/-- macros with no fault, all of whose expansions are short enough -/
def Fine (l : List Mc) : Prop := l.length ≤ 40 ∧ (l.map (·.1)).Nodup ∧ (∀ m ∈ l, good m.1 = true) ∧ ∃ k, ∀ m ∈ l, (ev l k m.1).isSome = true
/-- t is the expansion of s -/
def Exp (l : List Mc) (s t : Str) : Prop := Fine l ∧ ∃ k, val (ev l k) s = some t
theorem Exp.one {l : List Mc} {s t u : Str} (h : Exp l s t) (g : Exp l s u) : t = u := by
  obtain ⟨_, k, h⟩ := h
  obtain ⟨_, j, g⟩ := g
  have a := val_mono (fun n t => ev_mono l (Nat.le_max_left k j)) h
  have b := val_mono (fun n t => ev_mono l (Nat.le_max_right k j)) g
  rw [a] at b; exact Option.some.inj b
theorem Exp.join {l : List Mc} {s t a b : Str} (h : Exp l s a) (g : Exp l t b) (hl : a.length + b.length ≤ 2000) : Exp l (s ++ t) (a ++ b) := by
  obtain ⟨F, k, h⟩ := h
  obtain ⟨_, j, g⟩ := g
  have a' := val_mono (fun n t => ev_mono l (Nat.le_max_left k j)) h
  have b' := val_mono (fun n t => ev_mono l (Nat.le_max_right k j)) g
  obtain ⟨S, s1, s2, s3⟩ := val_some a'
  obtain ⟨T, t1, t2, t3⟩ := val_some b'
  refine ⟨F, max k j, val_mk (tk_append t T t1 s none S s1) ?_ (by rw [List.length_append]; exact hl)⟩
  rw [sub_append, s2, t2]; rfl

/-! the names that are referred to, each once -/
def ddS (acc : List Str) : Tok → List Str
  | .inl _ => acc
  | .inr n => if acc.contains n then acc else acc ++ [n]
def dd (T : List Tok) : List Str := T.foldl ddS []
theorem dd_snoc (T : List Tok) (n : Str) : dd (T ++ [Sum.inr n]) = if (dd T).contains n then dd T else dd T ++ [n] := by unfold dd; rw [List.foldl_append]; rfl
theorem dd_bytes (T : List Tok) (a : Str) : dd (T ++ a.map Sum.inl) = dd T := by
  unfold dd; rw [List.foldl_append]
  generalize List.foldl ddS [] T = x
  induction a with
  | nil => rfl
  | cons c r ih => rw [List.map_cons, List.foldl_cons]; exact ih
theorem dd_mem (n : Str) : ∀ (T : List Tok) (acc : List Str), n ∈ T.foldl ddS acc ↔ n ∈ acc ∨ Sum.inr n ∈ T
  | [], acc => by simp
  | .inl c :: r, acc => by rw [List.foldl_cons, dd_mem n r]; simp [ddS]
  | .inr m :: r, acc => by
    rw [List.foldl_cons, dd_mem n r]
    by_cases h : m ∈ acc
    · simp only [ddS, List.contains_iff_mem, h, if_true, List.mem_cons, Sum.inr.injEq]
      constructor
      · rintro (a | a)
        · exact .inl a
        · exact .inr (.inr a)
      · rintro (a | a | a)
        · exact .inl a
        · rw [a]; exact .inl h
        · exact .inr a
    · simp [ddS, h, or_assoc]
theorem mem_dd (n : Str) (T : List Tok) : n ∈ dd T ↔ Sum.inr n ∈ T := by unfold dd; rw [dd_mem]; simp
theorem dd_len : ∀ (T : List Tok) (acc : List Str), (T.foldl ddS acc).length ≤ acc.length + T.length
  | [], acc => by simp
  | .inl c :: r, acc => by rw [List.foldl_cons]; have := dd_len r (ddS acc (.inl c)); simp only [ddS] at this ⊢; rw [List.length_cons]; omega
  | .inr m :: r, acc => by
    rw [List.foldl_cons]; have := dd_len r (ddS acc (.inr m)); rw [List.length_cons]
    simp only [ddS] at this ⊢
    split at this
    · rename_i h; rw [if_pos h]; omega
    · rename_i h; rw [if_neg h]; rw [List.length_append] at this; simp only [List.length_singleton] at this; omega
theorem dd_le (T : List Tok) : (dd T).length ≤ T.length := by have := dd_len T []; simpa [dd] using this
/-- the names that s refers to -/
def usesR (s : Str) : List Str := match tk none s with
  | some T => dd T
  | none => []
end Go.Proofs.YtpjcdfphllbonaaDoor
