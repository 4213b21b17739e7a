/-
  Macros in plain words: how a string is read (tk), what replaces its references (sub, val, ev). No condition.
  Maps with string keys: block b is a map that holds f, whatever the elements are. No condition.
  Slices of strings and of macros: what they hold. Condition: a slice takes at most 2^47 bytes (the form says so).
-/
import Derived.Test.YtebjofffijnihaaGreatDoorGc1Ls
import Derived.Maps.OwnSet
import Derived.WalkKit
import Derived.ProofKit
import Derived.OpenShut
import Derived.Handy
import Derived.BigQuiet
import Derived.Deep.QuietTactic
import Derived.Lib.Hide
import Derived.WalkLawsBesides
import Derived.Laws.Externs
import Derived.SizedLaws
import Derived.SliceStrings
import Derived.Deep.Slices
import Derived.OwnWalk
import Derived.Deep.AppendLies
import Derived.Laws.OwnMore
import Derived.Shelf.Abstract
import Derived.WalkSpells
import Derived.Lib.OwnBridge
import Derived.Sort.Walk0
import Derived.Sort.EncStr
namespace Go.Proofs.YtebjofffijnihaaGreatDoor
set_option maxRecDepth 100000
set_option linter.unusedVariables false

abbrev Mc := Str × Str
/-- a byte that stands for itself, or the name of a reference -/
abbrev Tok := UInt8 ⊕ Str

/-- none: outside; some none: behind a dollar; some (some a): in the parentheses, behind a -/
def tk : Option (Option Str) → Str → Option (List Tok)
  | none, [] => some []
  | some _, [] => none
  | none, c :: r => if c = 36 then tk (some none) r else (tk none r).map (Sum.inl c :: ·)
  | some none, c :: r => if c = 36 then (tk none r).map (Sum.inl 36 :: ·) else if c = 40 then tk (some (some [])) r else none
  | some (some a), c :: r => if c = 41 then (if good a then (tk none r).map (Sum.inr a :: ·) else none) else tk (some (some (a ++ [c]))) r

theorem tk_append (t : Str) (b : List Tok) (hb : tk none t = some b) : ∀ (s : Str) (m : Option (Option Str)) (a : List Tok), tk m s = some a → tk m (s ++ t) = some (a ++ b)
  | [], none, a, h => by
    simp only [tk, Option.some.injEq] at h; subst h; simpa using hb
  | [], some _, a, h => by simp [tk] at h
  | c :: r, none, a, h => by
    rw [List.cons_append]
    simp only [tk] at h ⊢
    by_cases hc : c = 36
    · rw [if_pos hc] at h ⊢; exact tk_append t b hb r _ a h
    · rw [if_neg hc] at h ⊢
      cases hr : tk none r with
      | none => rw [hr] at h; cases h
      | some x => rw [hr] at h; cases h; rw [tk_append t b hb r _ x hr]; rfl
  | c :: r, some none, a, h => by
    rw [List.cons_append]
    simp only [tk] at h ⊢
    by_cases hc : c = 36
    · rw [if_pos hc] at h ⊢
      cases hr : tk none r with
      | none => rw [hr] at h; cases h
      | some x => rw [hr] at h; cases h; rw [tk_append t b hb r _ x hr]; rfl
    · rw [if_neg hc] at h ⊢
      by_cases hd : c = 40
      · rw [if_pos hd] at h ⊢; exact tk_append t b hb r _ a h
      · rw [if_neg hd] at h; cases h
  | c :: r, some (some y), a, h => by
    rw [List.cons_append]
    simp only [tk] at h ⊢
    by_cases hc : c = 41
    · rw [if_pos hc] at h ⊢
      by_cases hg : good y = true
      · rw [if_pos hg] at h ⊢
        cases hr : tk none r with
        | none => rw [hr] at h; cases h
        | some x => rw [hr] at h; cases h; rw [tk_append t b hb r _ x hr]; rfl
      · rw [if_neg hg] at h; cases h
    · rw [if_neg hc] at h ⊢; exact tk_append t b hb r _ a h

theorem tk_plain (s : Str) : ∀ a : Str, 36 ∉ a → tk none (a ++ s) = (tk none s).map (a.map Sum.inl ++ ·)
  | [], _ => by cases h : tk none s <;> simp [h]
  | c :: r, h => by
    rw [List.cons_append]
    simp only [tk]
    rw [if_neg (fun e => h (by rw [e]; exact List.mem_cons_self)), tk_plain s r (fun e => h (List.mem_cons_of_mem _ e))]
    cases h : tk none s <;> simp
theorem tk_flat (a : Str) (h : 36 ∉ a) : tk none a = some (a.map Sum.inl) := by
  have := tk_plain [] a h
  rw [List.append_nil] at this; rw [this]; simp [tk]
theorem tk_dollar (s : Str) : tk none (36 :: s) = tk (some none) s := by simp [tk]
theorem tk_two (s : Str) : tk (some none) (36 :: s) = (tk none s).map ([Sum.inl 36] ++ ·) := by simp [tk]
theorem tk_in (r : Str) : ∀ (a b : Str), 41 ∉ a → tk (some (some b)) (a ++ 41 :: r) = if good (b ++ a) then (tk none r).map ([Sum.inr (b ++ a)] ++ ·) else none
  | [], b, _ => by simp [tk]
  | c :: a, b, h => by
    rw [List.cons_append]
    simp only [tk]
    rw [if_neg (fun e => h (by rw [e]; exact List.mem_cons_self)), tk_in r a _ (fun e => h (List.mem_cons_of_mem _ e)), List.append_assoc]
    rfl
theorem tk_open : ∀ (a b : Str), 41 ∉ a → tk (some (some b)) a = none
  | [], b, _ => by simp [tk]
  | c :: a, b, h => by
    simp only [tk]
    rw [if_neg (fun e => h (by rw [e]; exact List.mem_cons_self)), tk_open a _ (fun e => h (List.mem_cons_of_mem _ e))]
theorem tk_par (s : Str) : tk (some none) (40 :: s) = tk (some (some [])) s := by simp [tk]
theorem tk_bad : ∀ (s : Str), [36].isPrefixOf s = false → [40].isPrefixOf s = false → tk (some none) s = none
  | [], _, _ => by simp [tk]
  | c :: r, h, g => by
    simp only [tk]
    have h1 : c ≠ 36 := by rintro rfl; simp [List.isPrefixOf] at h
    have h2 : c ≠ 40 := by rintro rfl; simp [List.isPrefixOf] at g
    rw [if_neg h1, if_neg h2]

/-! what the references are replaced by -/
def sub (g : Str → Option Str) : List Tok → Option Str
  | [] => some []
  | .inl c :: r => (sub g r).map (c :: ·)
  | .inr n :: r => (g n).bind fun u => (sub g r).map (u ++ ·)
theorem sub_append (g : Str → Option Str) : ∀ a b : List Tok, sub g (a ++ b) = (sub g a).bind fun x => (sub g b).map (x ++ ·)
  | [], b => by cases h : sub g b <;> simp [sub, h]
  | .inl c :: r, b => by
    rw [List.cons_append]; simp only [sub]; rw [sub_append g r b]
    cases sub g r <;> cases sub g b <;> rfl
  | .inr n :: r, b => by
    rw [List.cons_append]; simp only [sub]; rw [sub_append g r b]
    cases g n <;> cases sub g r <;> cases sub g b <;> simp
theorem sub_mono {g h : Str → Option Str} (H : ∀ n t, g n = some t → h n = some t) : ∀ (T : List Tok) (t : Str), sub g T = some t → sub h T = some t
  | [], t, e => e
  | .inl c :: r, t, e => by
    simp only [sub] at e ⊢
    cases hr : sub g r with
    | none => rw [hr] at e; cases e
    | some x => rw [hr] at e; rw [sub_mono H r x hr]; exact e
  | .inr n :: r, t, e => by
    simp only [sub] at e ⊢
    cases hn : g n with
    | none => rw [hn] at e; cases e
    | some u =>
      rw [hn] at e; rw [H n u hn]
      cases hr : sub g r with
      | none => rw [hr] at e; cases e
      | some x => rw [hr] at e; rw [sub_mono H r x hr]; exact e
theorem sub_congr {g h : Str → Option Str} : ∀ (T : List Tok), (∀ n, Sum.inr n ∈ T → g n = h n) → sub g T = sub h T
  | [], _ => rfl
  | .inl c :: r, H => by simp only [sub]; rw [sub_congr r (fun n hn => H n (List.mem_cons_of_mem _ hn))]
  | .inr n :: r, H => by simp only [sub]; rw [sub_congr r (fun n hn => H n (List.mem_cons_of_mem _ hn)), H n List.mem_cons_self]
theorem sub_some {g : Str → Option Str} : ∀ (T : List Tok) (t : Str), sub g T = some t → ∀ n, Sum.inr n ∈ T → ∃ u, g n = some u
  | [], _, _, n, hn => by cases hn
  | .inl c :: r, t, e, n, hn => by
    simp only [sub] at e
    cases hr : sub g r with
    | none => rw [hr] at e; cases e
    | some x => cases hn with
      | tail _ hn => exact sub_some r x hr n hn
  | .inr m :: r, t, e, n, hn => by
    simp only [sub] at e
    cases hm : g m with
    | none => rw [hm] at e; cases e
    | some u =>
      rw [hm] at e
      cases hr : sub g r with
      | none => rw [hr] at e; cases e
      | some x => cases hn with
        | head => exact ⟨u, hm⟩
        | tail _ hn => exact sub_some r x hr n hn

/-- the expansion, what has none left out -/
def subD (g : Str → Option Str) : List Tok → Str
  | [] => []
  | .inl c :: r => c :: subD g r
  | .inr n :: r => (g n).getD [] ++ subD g r
theorem subD_append (g : Str → Option Str) : ∀ a b : List Tok, subD g (a ++ b) = subD g a ++ subD g b
  | [], b => rfl
  | .inl c :: r, b => by rw [List.cons_append]; simp only [subD]; rw [subD_append g r b]; rfl
  | .inr n :: r, b => by rw [List.cons_append]; simp only [subD]; rw [subD_append g r b, List.append_assoc]
theorem subD_bytes (g : Str → Option Str) : ∀ a : Str, subD g (a.map Sum.inl) = a
  | [] => rfl
  | c :: r => by rw [List.map_cons]; simp only [subD]; rw [subD_bytes g r]
theorem sub_all {g : Str → Option Str} : ∀ (T : List Tok), (∀ n, Sum.inr n ∈ T → (g n).isSome = true) → sub g T = some (subD g T)
  | [], _ => rfl
  | .inl c :: r, H => by simp only [sub, subD]; rw [sub_all r (fun n hn => H n (List.mem_cons_of_mem _ hn))]; rfl
  | .inr n :: r, H => by
    simp only [sub, subD]; rw [sub_all r (fun n hn => H n (List.mem_cons_of_mem _ hn))]
    cases h : g n with
    | none => have := H n List.mem_cons_self; rw [h] at this; cases this
    | some u => rfl

def val (g : Str → Option Str) (s : Str) : Option Str := ((tk none s).bind (sub g)).bind fun t => if t.length ≤ 2000 then some t else none
theorem val_some {g : Str → Option Str} {s t : Str} (h : val g s = some t) : ∃ T, tk none s = some T ∧ sub g T = some t ∧ t.length ≤ 2000 := by
  unfold val at h
  cases hT : tk none s with
  | none => rw [hT] at h; cases h
  | some T =>
    rw [hT] at h
    cases hs : sub g T with
    | none => rw [Option.bind_some, hs] at h; cases h
    | some x =>
      rw [Option.bind_some, hs, Option.bind_some] at h
      split at h
      · cases h; exact ⟨T, rfl, hs, by assumption⟩
      · cases h
theorem val_mk {g : Str → Option Str} {s t : Str} {T : List Tok} (h1 : tk none s = some T) (h2 : sub g T = some t) (h3 : t.length ≤ 2000) : val g s = some t := by
  unfold val; rw [h1, Option.bind_some, h2, Option.bind_some, if_pos h3]
theorem val_mono {g h : Str → Option Str} (H : ∀ n t, g n = some t → h n = some t) {s t : Str} (e : val g s = some t) : val h s = some t := by
  obtain ⟨T, h1, h2, h3⟩ := val_some e
  exact val_mk h1 (sub_mono H T t h2) h3

def look (l : List Mc) (n : Str) : Option Str := (l.find? fun m => m.1 == n).map (·.2)
def ev (l : List Mc) : Nat → Str → Option Str
  | 0, _ => none
  | k + 1, n => (look l n).bind (val (ev l k))
theorem ev_step (l : List Mc) : ∀ (k : Nat) (n t : Str), ev l k n = some t → ev l (k + 1) n = some t
  | 0, n, t, h => by cases h
  | k + 1, n, t, h => by
    rw [ev] at h ⊢
    cases hl : look l n with
    | none => rw [hl] at h; cases h
    | some v => rw [hl] at h; rw [Option.bind_some] at h ⊢; exact val_mono (ev_step l k) h
theorem ev_mono (l : List Mc) {k j : Nat} (hk : k ≤ j) {n t : Str} (h : ev l k n = some t) : ev l j n = some t := by
  induction hk with
  | refl => exact h
  | step _ ih => exact ev_step l _ n t ih
theorem ev_one (l : List Mc) {k j : Nat} {n t u : Str} (h : ev l k n = some t) (g : ev l j n = some u) : t = u := by
  have a := ev_mono l (Nat.le_max_left k j) h
  have b := ev_mono l (Nat.le_max_right k j) g
  rw [a] at b; exact Option.some.inj b

/-- macros with no fault, all of whose expansions are short enough -/
def Fine (l : List Mc) : Prop := l.length ≤ 40 ∧ (l.map (·.1)).Nodup ∧ (∀ m ∈ l, good m.1 = true) ∧ ∃ k, ∀ m ∈ l, (ev l k m.1).isSome = true
/-- t is the expansion of s -/
def Exp (l : List Mc) (s t : Str) : Prop := Fine l ∧ ∃ k, val (ev l k) s = some t
theorem Exp.one {l : List Mc} {s t u : Str} (h : Exp l s t) (g : Exp l s u) : t = u := by
  obtain ⟨_, k, h⟩ := h
  obtain ⟨_, j, g⟩ := g
  have a := val_mono (fun n t => ev_mono l (Nat.le_max_left k j)) h
  have b := val_mono (fun n t => ev_mono l (Nat.le_max_right k j)) g
  rw [a] at b; exact Option.some.inj b
theorem Exp.join {l : List Mc} {s t a b : Str} (h : Exp l s a) (g : Exp l t b) (hl : a.length + b.length ≤ 2000) : Exp l (s ++ t) (a ++ b) := by
  obtain ⟨F, k, h⟩ := h
  obtain ⟨_, j, g⟩ := g
  have a' := val_mono (fun n t => ev_mono l (Nat.le_max_left k j)) h
  have b' := val_mono (fun n t => ev_mono l (Nat.le_max_right k j)) g
  obtain ⟨S, s1, s2, s3⟩ := val_some a'
  obtain ⟨T, t1, t2, t3⟩ := val_some b'
  refine ⟨F, max k j, val_mk (tk_append t T t1 s none S s1) ?_ (by rw [List.length_append]; exact hl)⟩
  rw [sub_append, s2, t2]; rfl

/-! the names that are referred to, each once -/
def ddS (acc : List Str) : Tok → List Str
  | .inl _ => acc
  | .inr n => if acc.contains n then acc else acc ++ [n]
def dd (T : List Tok) : List Str := T.foldl ddS []
theorem dd_snoc (T : List Tok) (n : Str) : dd (T ++ [Sum.inr n]) = if (dd T).contains n then dd T else dd T ++ [n] := by unfold dd; rw [List.foldl_append]; rfl
theorem dd_bytes (T : List Tok) (a : Str) : dd (T ++ a.map Sum.inl) = dd T := by
  unfold dd; rw [List.foldl_append]
  generalize List.foldl ddS [] T = x
  induction a with
  | nil => rfl
  | cons c r ih => rw [List.map_cons, List.foldl_cons]; exact ih
theorem dd_mem (n : Str) : ∀ (T : List Tok) (acc : List Str), n ∈ T.foldl ddS acc ↔ n ∈ acc ∨ Sum.inr n ∈ T
  | [], acc => by simp
  | .inl c :: r, acc => by rw [List.foldl_cons, dd_mem n r]; simp [ddS]
  | .inr m :: r, acc => by
    rw [List.foldl_cons, dd_mem n r]
    by_cases h : m ∈ acc
    · simp only [ddS, List.contains_iff_mem, h, if_true, List.mem_cons, Sum.inr.injEq]
      constructor
      · rintro (a | a)
        · exact .inl a
        · exact .inr (.inr a)
      · rintro (a | a | a)
        · exact .inl a
        · rw [a]; exact .inl h
        · exact .inr a
    · simp [ddS, h, or_assoc]
theorem mem_dd (n : Str) (T : List Tok) : n ∈ dd T ↔ Sum.inr n ∈ T := by unfold dd; rw [dd_mem]; simp
theorem dd_len : ∀ (T : List Tok) (acc : List Str), (T.foldl ddS acc).length ≤ acc.length + T.length
  | [], acc => by simp
  | .inl c :: r, acc => by rw [List.foldl_cons]; have := dd_len r (ddS acc (.inl c)); simp only [ddS] at this ⊢; rw [List.length_cons]; omega
  | .inr m :: r, acc => by
    rw [List.foldl_cons]; have := dd_len r (ddS acc (.inr m)); rw [List.length_cons]
    simp only [ddS] at this ⊢
    split at this
    · rename_i h; rw [if_pos h]; omega
    · rename_i h; rw [if_neg h]; rw [List.length_append] at this; simp only [List.length_singleton] at this; omega
theorem dd_le (T : List Tok) : (dd T).length ≤ T.length := by have := dd_len T []; simpa [dd] using this
/-- the names that s refers to -/
def usesR (s : Str) : List Str := match tk none s with
  | some T => dd T
  | none => []
end Go.Proofs.YtebjofffijnihaaGreatDoor
namespace Go.Proofs.YtebjofffijnihaaGreatDoor
set_option maxRecDepth 100000
set_option linter.unusedVariables false
open Go.ChangeShapes Go.WideShapes Go.ChangeAt Go.RowKit Go.Maps

/-- a string as the model lays it -/
def bs (x : Str) : ByteArray := ⟨x.toArray⟩
theorem keyLaw : Keyed Tryz.prog 9 := string_keyed Tryz.underlying9
def anyV (v : Value) : Option (DataW Value × List MemPlace) := some (.held v, [])
/-- block b is a map of at most n entries that holds f -/
def MI (b n : Nat) (f : Str → Option Value) (w : World) : Prop := ∃ D : DataW Value, w.ownsMap Tryz.prog 9 anyV b n D ∧ ∀ s : Str, Maps.has D (.string s) = (f s).isSome ∧ ∀ z : Value, D.atKey (.string s) (.held z) = .held ((f s).getD z)

def upd (f : Str → Option Value) (s : Str) (v : Value) : Str → Option Value := fun x => if x = s then some v else f x

theorem MI.made (w : World) : MI w.heap.size 0 (fun _ => none) (w.alloc (.map #[] 0)) :=
  ⟨.map [], World.ownsMap_made w _ _ _, fun s => ⟨rfl, fun z => rfl⟩⟩
theorem MI.lt {b n : Nat} {f : Str → Option Value} {w : World} (h : MI b n f w) : b < w.heap.size := by obtain ⟨D, h, _⟩ := h; exact h.lt
theorem MI.grown {b n : Nat} {f : Str → Option Value} {w w' : World} {row : Option Nat} (h : MI b n f w) (hg : w.grownBy w' row) (hne : some b ≠ row) : MI b n f w' := by
  obtain ⟨D, h, k⟩ := h; exact ⟨D, h.kept hg hne, k⟩
theorem MI.alloc {b n : Nat} {f : Str → Option Value} {w : World} (h : MI b n f w) (o : Obj) : MI b n f (w.alloc o) := by
  obtain ⟨D, h, k⟩ := h; exact ⟨D, h.alloc o, k⟩
theorem MI.later {b n : Nat} {f : Str → Option Value} {w w' : World} (h : MI b n f w) (hb : Below w.heap.size w w') : MI b n f w' := by
  have hlt := h.lt
  obtain ⟨D, ⟨es, clock, hb', r⟩, k⟩ := h
  exact ⟨D, ⟨es, clock, (hb.block b hlt).trans hb', r⟩, k⟩
theorem MI.setCell {b n : Nat} {f : Str → Option Value} {w : World} (h : MI b n f w) {a : Addr} (ha : b ≠ a.block) (u : Value) : MI b n f (w.setCell a u) := by
  obtain ⟨D, h, k⟩ := h; exact ⟨D, h.setCell ha u, k⟩

theorem MI.mono {b n m : Nat} {f : Str → Option Value} {w : World} (h : MI b n f w) (hn : n ≤ m) : MI b m f w := by
  obtain ⟨D, h, k⟩ := h; exact ⟨D, h.mono hn, k⟩
theorem MI.congr {b n : Nat} {f g : Str → Option Value} {w : World} (h : MI b n f w) (e : ∀ s, f s = g s) : MI b n g w := by
  obtain ⟨D, h, k⟩ := h; exact ⟨D, h, fun s => by rw [← e s]; exact k s⟩
theorem key_bs {x : Str} (hx : x.length ≤ maxLen) : keyOf Tryz.prog 9 (.string (bs x)) = some (.string x) := by
  have := WideMaps.keyOf_string_mk (P := Tryz.prog) (s := bs x) Tryz.underlying9 (by show x.toArray.size ≤ _; simpa using hx)
  simpa [bs] using this

theorem MI.look {b n : Nat} {f : Str → Option Value} {w : World} {t e : TypeId} {z : Value} (h : MI b n f w) (ht : Tryz.prog.underlying t = some (.map 9 e)) (hz : (zeroValue e).run Tryz.prog w = .ok z w) {x : Str} (hx : x.length ≤ maxLen) :
    (Instr.lookup t (.map (some b)) (.string (bs x)) false).run Tryz.prog w = .ok ((f x).getD z) w := by
  obtain ⟨D, h, k⟩ := h
  obtain ⟨v, ps, hr, hv⟩ := h.lookup keyLaw ht hz (zd := .held z) (zp := []) rfl (key_bs hx)
  rw [(k x).2 z] at hv
  unfold anyV at hv
  simp only [Option.some.injEq, Prod.mk.injEq, DataW.held.injEq] at hv
  rw [hr, hv.1]
theorem MI.look_ok {b n : Nat} {f : Str → Option Value} {w : World} {t e : TypeId} {z : Value} (h : MI b n f w) (ht : Tryz.prog.underlying t = some (.map 9 e)) (hz : (zeroValue e).run Tryz.prog w = .ok z w) {x : Str} (hx : x.length ≤ maxLen) :
    (Instr.lookup t (.map (some b)) (.string (bs x)) true).run Tryz.prog w = .ok (.tuple #[(f x).getD z, .bool (f x).isSome]) w := by
  obtain ⟨D, h, k⟩ := h
  obtain ⟨v, ps, hr, hv⟩ := h.look_ok keyLaw ht hz (zd := .held z) (zp := []) rfl (key_bs hx)
  rw [(k x).2 z] at hv
  unfold anyV at hv
  simp only [Option.some.injEq, Prod.mk.injEq, DataW.held.injEq] at hv
  rw [hr, hv.1, (k x).1]
theorem MI.store {b n : Nat} {f : Str → Option Value} {w : World} {t e : TypeId} (h : MI b n f w) (ht : Tryz.prog.underlying t = some (.map 9 e)) (hn : n < maxLen) {x : Str} (hx : x.length ≤ maxLen) (v : Value) :
    ∃ w', (Instr.mapUpdate t (.map (some b)) (.string (bs x)) v).run Tryz.prog w = .ok () w' ∧ MI b (n + 1) (upd f x v) w' ∧ w.grownBy w' (some b) ∧ w'.heap.size = w.heap.size := by
  obtain ⟨D, h, k⟩ := h
  obtain ⟨w', hr, ho, hg⟩ := h.store keyLaw ht hn (key_bs hx) (val := v) (d := .held v) (ps := []) rfl
  refine ⟨w', hr, ⟨_, ho, fun s => ?_⟩, hg.grown, ?_⟩
  · by_cases hs : s = x
    · subst hs
      refine ⟨?_, fun z => ?_⟩
      · rw [has_put_same h.isMap (show WideAt.IsKeyLit (.string s) from trivial)]; simp [upd]
      · rw [atKey_put_same h.isMap (show WideAt.IsKeyLit (.string s) from trivial)]; simp [upd]
    · have hne : Lit.string s ≠ Lit.string x := fun e => hs (by injection e)
      refine ⟨?_, fun z => ?_⟩
      · rw [has_put_other hne, (k s).1]; simp [upd, hs]
      · rw [atKey_put_other hne, (k s).2]; simp [upd, hs]
  · obtain ⟨es, clock, es', clock', hb, rfl⟩ := hg
    simp [Go.ChangeMaps.setBlock]
end Go.Proofs.YtebjofffijnihaaGreatDoor
namespace Go.Proofs.YtebjofffijnihaaGreatDoor
set_option maxRecDepth 100000
set_option linter.unusedVariables false
open Go.ChangeShapes Go.WideShapes Go.ChangeAt Go.RowKit

theorem ret_s {a b : Str} (h : a = b) : Ending.returned (.string ⟨a.toArray⟩) = .returned (.string ⟨b.toArray⟩) := by rw [h]
theorem bs_list (x : Str) : (bs x).data.toList = x := rfl
theorem bs_toList (x : Str) : (bs x).toList = x := by rw [Lib.toList_data]; rfl
theorem bs_of (s : ByteArray) : bs s.data.toList = s := by unfold bs; simp
theorem bs_some {x : Str} (h : x ≠ []) : (bs x).toList.isEmpty = false := by rw [bs_toList]; cases x with
  | nil => exact absurd rfl h
  | cons _ _ => rfl
theorem bs_none : (bs []).toList.isEmpty = true := by rw [bs_toList]; rfl
theorem bs_size (x : Str) : (bs x).size = x.length := by rw [← size_list]; rfl
theorem encStr_bs (x : Str) : encStr x = .string (bs x) := rfl

/-- a slice that holds the strings z -/
def SIn (w : World) (v : Value) (z : List Str) : Prop :=
  ∃ a cap, v = .slice a z.length cap ∧ z.length ≤ cap ∧ z.length ≤ 17592186044416 ∧ (∀ x ∈ z, x.length ≤ 9223372036854775807) ∧
    (z = [] ∨ ∃ b off, a = some ⟨b, off, none⟩ ∧ b < w.heap.size ∧ ∀ k, k < z.length → w.cell? ⟨b, off + k, none⟩ = some (.string (bs (z.getD k []))))

theorem SIn.later {w w' : World} {v : Value} {z : List Str} (h : SIn w v z) (hb : Below w.heap.size w w') : SIn w' v z := by
  obtain ⟨a, cap, h1, h2, h3, h4, h5⟩ := h
  refine ⟨a, cap, h1, h2, h3, h4, ?_⟩
  rcases h5 with h5 | ⟨b, off, h5, h6, h7⟩
  · exact .inl h5
  · exact .inr ⟨b, off, h5, Nat.lt_of_lt_of_le h6 hb.size, fun k hk => cell_later hb (h7 k hk)⟩
theorem SIn.own {w : World} {base : Nat} {v : Value} {z : List Str} (h : w.ownsRow base 9 1 v z.length (z.map encStr)) (hn : z.length ≤ 17592186044416) (hx : ∀ x ∈ z, x.length ≤ 9223372036854775807) : SIn w v z := by
  by_cases h0 : z = []
  · subst h0
    rcases h.2 with ⟨hv, _⟩ | ⟨g, cap, _, hv, _⟩
    · exact ⟨none, 0, hv, Nat.le_refl _, by simp, hx, .inl rfl⟩
    · exact ⟨_, cap, hv, Nat.zero_le _, by simp, hx, .inl rfl⟩
  · have hl : z.length ≠ 0 := fun e => h0 (List.length_eq_zero_iff.1 e)
    have hv : v ≠ .slice none 0 0 := by
      rintro rfl
      rcases h.2 with ⟨_, k⟩ | ⟨g, cap, _, k, _⟩
      · exact hl k
      · cases k
    obtain ⟨g, cap, rfl, hb, hlt, hc, _, _, hH⟩ := Lib.holds_of_ownsRow h hv
    refine ⟨_, cap, rfl, hc, hn, hx, .inr ⟨g, 0, rfl, hlt, fun k hk => ?_⟩⟩
    have := (hH k (by simpa using hk)).1
    rw [this, getElem!_pos _ k (by simpa using hk)]
    simp [encStr_bs, List.getD, List.getElem?_eq_getElem hk]
theorem SIn.bound {w : World} {v : Value} {z : List Str} (h : SIn w v z) : z.length ≤ 17592186044416 := by obtain ⟨_, _, _, _, h3, _⟩ := h; exact h3
theorem SIn.small {w : World} {v : Value} {z : List Str} (h : SIn w v z) : ∀ x ∈ z, x.length ≤ 9223372036854775807 := by obtain ⟨_, _, _, _, _, h4, _⟩ := h; exact h4
/-- opened: no element, or a row -/
theorem SIn.open {w : World} {v : Value} {z : List Str} (h : SIn w v z) : (z = [] ∧ ∃ a cap, v = .slice a 0 cap) ∨
    (0 < z.length ∧ ∃ b off cap, v = .slice (some ⟨b, off, none⟩) z.length cap ∧ z.length ≤ cap ∧ b < w.heap.size ∧ ∀ k, k < z.length → w.cell? ⟨b, off + k, none⟩ = some (.string (bs (z.getD k [])))) := by
  obtain ⟨a, cap, rfl, h2, _, _, h5⟩ := h
  by_cases h0 : z = []
  · subst h0; exact .inl ⟨rfl, a, cap, rfl⟩
  · rcases h5 with h5 | ⟨b, off, rfl, h6, h7⟩
    · exact absurd h5 h0
    · exact .inr ⟨List.length_pos_iff.2 h0, b, off, cap, rfl, h2, h6, h7⟩

theorem open_strs2 {H : Type} {enc : TypeId × Value → H} {P : Program} {W : World} {t e : TypeId} {v : Value} {d : DataW H} {ps : List MemPlace} {base : Nat} {ts : List TypeId} {ds : List (DataW H)} {j : Nat}
    (ht : P.underlying t = some (.slice e)) (he : P.underlying e = some .string) (hc : P.cellsOf e = 1) (hb : P.bytesOf e = 16)
    (hsz : (DataW.weightsEach P ts ds).all (· ≤ reachBytes) = true) (htj : ts[j]? = some t) (hdj : ds[j]? = some d)
    (hval : Value.okWide P W .any base t v) (h : DataW.Trod enc P W 0 (fun _ => true) true t v d ps) :
    ∃ z, SIn W v z ∧ z.length ≤ 8796093022208 := by
  obtain ⟨a0, len0, cap0, rfl⟩ := okWide_slice ht hval
  obtain ⟨fuel, hf⟩ := h
  rcases open_strings ht he hc hf with ⟨hcs, _⟩ | ⟨a, len, cap, ss, hcs, _, hl, hm, hss, hx, hcell, hmax⟩
  · simp [Value.cells] at hcs
    obtain ⟨rfl, rfl, rfl⟩ := hcs
    exact ⟨[], ⟨none, 0, rfl, Nat.le_refl _, by simp, fun x hx => absurd hx List.not_mem_nil, .inl rfl⟩, by simp⟩
  · simp [Value.cells] at hcs
    obtain ⟨rfl, rfl, rfl⟩ := hcs
    simp only [if_true] at hss
    simp only [Prod.mk.injEq] at hx
    have hs := sized_slice hsz htj (hx.1 ▸ hdj) ht
    rw [hb] at hs
    simp only [strs, List.length_map, List.length_take, List.length_drop, reachBytes] at hs
    have hlen : ((ss.take len0).map fun s => s.data.toList).length = len0 := by rw [List.length_map, List.length_take]; omega
    refine ⟨(ss.take len0).map fun s => s.data.toList, ⟨some a, cap0, by rw [hlen], by omega, by omega, ?_, ?_⟩, by omega⟩
    · intro x hx'
      obtain ⟨s, hs', rfl⟩ := List.mem_map.1 hx'
      rw [size_list]
      exact hmax s (List.mem_of_mem_take hs')
    · by_cases h0 : len0 = 0
      · left; subst h0; simp
      · right
        obtain ⟨b, off, spot⟩ := a
        have hspot : spot = none := by simpa [Addr.add] using World.cell?_spot (hcell 0 (by omega))
        subst hspot
        have hc' : ∀ k, k < len0 → W.cell? ⟨b, off + k, none⟩ = some (.string (ss.getD k ByteArray.empty)) := fun k hk => by
          rw [← hcell k (by omega)]
          congr 1
          unfold Addr.add
          by_cases e : k = 0 <;> simp [e]
        refine ⟨b, off, rfl, World.block_lt_of_cell? _ _ (hc' 0 (by omega)), fun k hk => ?_⟩
        rw [hlen] at hk
        rw [hc' k hk]
        have e1 : k < (ss.take len0).length := by rw [List.length_take]; omega
        have e2 : k < ss.length := by omega
        rw [List.getD, List.getD, List.getElem?_map, List.getElem?_eq_getElem e1, List.getElem?_eq_getElem e2]
        simp [bs_of]

theorem open_strs {H : Type} {enc : TypeId × Value → H} {P : Program} {W : World} {t e : TypeId} {v : Value} {d : DataW H} {ps : List MemPlace} {base : Nat} {ts : List TypeId} {ds : List (DataW H)} {j : Nat}
    (ht : P.underlying t = some (.slice e)) (he : P.underlying e = some .string) (hc : P.cellsOf e = 1) (hb : P.bytesOf e = 16)
    (hsz : (DataW.weightsEach P ts ds).all (· ≤ reachBytes) = true) (htj : ts[j]? = some t) (hdj : ds[j]? = some d)
    (hval : Value.okWide P W .any base t v) (h : DataW.Trod enc P W 0 (fun _ => true) true t v d ps) : ∃ z, SIn W v z := by
  obtain ⟨z, hz, _⟩ := open_strs2 ht he hc hb hsz htj hdj hval h
  exact ⟨z, hz⟩

theorem infoStr : (Tryz.prog.info? 9).map (fun i => (i.zero, i.size, i.bytes)) = some (some (.string ByteArray.empty), 1, 16) := by kernel_rfl

/-- the cells of a macro -/
def encMc (x : Mc) : List Value := [.string (bs x.1), .string (bs x.2)]
def mcCells (z : List Mc) : List Value := z.flatMap encMc
theorem mcCells_length (z : List Mc) : (mcCells z).length = z.length * 2 := by
  induction z with
  | nil => rfl
  | cons x r ih => simp [mcCells, encMc] at ih ⊢; omega
theorem mcCells_snoc (z : List Mc) (x : Mc) : mcCells (z ++ [x]) = mcCells z ++ [.string (bs x.1), .string (bs x.2)] := by simp [mcCells, encMc]
theorem mcCells_append (y z : List Mc) : mcCells (y ++ z) = mcCells y ++ mcCells z := by simp [mcCells]
theorem mcCells_at : ∀ (z : List Mc) (k : Nat) (x : Mc), z[k]? = some x → (mcCells z)[k * 2]? = some (.string (bs x.1)) ∧ (mcCells z)[k * 2 + 1]? = some (.string (bs x.2))
  | [], k, x, h => by simp at h
  | y :: t, 0, x, h => by
    simp at h
    subst h
    simp [mcCells, encMc]
  | y :: t, k + 1, x, h => by
    have ih := mcCells_at t k x (by simpa using h)
    have e : mcCells (y :: t) = .string (bs y.1) :: .string (bs y.2) :: mcCells t := by simp [mcCells, encMc]
    rw [e, show (k + 1) * 2 = k * 2 + 1 + 1 by omega, show k * 2 + 1 + 1 + 1 = (k * 2 + 1) + 1 + 1 by omega]
    simpa using ih

/-- a slice that holds the macros z -/
def McIn (w : World) (v : Value) (z : List Mc) : Prop :=
  ∃ a cap, v = .slice a z.length cap ∧ z.length ≤ cap ∧ cap ≤ maxLen ∧ z.length ≤ 8796093022208 ∧
    (z = [] ∨ ∃ b off, a = some ⟨b, off, none⟩ ∧ b < w.heap.size ∧ ∀ k x, z[k]? = some x → w.cell? ⟨b, off + k * 2, none⟩ = some (.string (bs x.1)) ∧ w.cell? ⟨b, off + k * 2 + 1, none⟩ = some (.string (bs x.2)))
theorem McIn.later {w w' : World} {v : Value} {z : List Mc} (h : McIn w v z) (hb : Below w.heap.size w w') : McIn w' v z := by
  obtain ⟨a, cap, h1, h2, h3, h4, h5⟩ := h
  refine ⟨a, cap, h1, h2, h3, h4, ?_⟩
  rcases h5 with h5 | ⟨b, off, h5, h6, h7⟩
  · exact .inl h5
  · exact .inr ⟨b, off, h5, Nat.lt_of_lt_of_le h6 hb.size, fun k x hk => ⟨cell_later hb (h7 k x hk).1, cell_later hb (h7 k x hk).2⟩⟩
theorem add_off (g j : Nat) : (⟨g, 0, none⟩ : Addr).add j = ⟨g, j, none⟩ := by
  unfold Addr.add
  by_cases e : j = 0 <;> simp [e]
theorem McIn.own {w : World} {base : Nat} {v : Value} {z : List Mc} (h : w.ownsRow base 109 2 v z.length (mcCells z)) (hn : z.length ≤ 8796093022208) : McIn w v z := by
  rcases h.2 with ⟨hv, h0⟩ | ⟨g, cap, cur, hv, hb, hg, hc, hm, hs, ht⟩
  · have : z = [] := List.length_eq_zero_iff.1 h0
    subst this
    exact ⟨none, 0, hv, Nat.le_refl _, Nat.zero_le _, Nat.zero_le _, .inl rfl⟩
  · refine ⟨_, cap, hv, hc, hm, hn, .inr ⟨g, 0, rfl, ?_, fun k x hk => ?_⟩⟩
    · rcases Nat.lt_or_ge g w.heap.size with h' | h'
      · exact h'
      · simp [Array.getElem?_eq_none h'] at hg
    · have hc := h.cells (g := g) (by rw [hv]; rfl)
      obtain ⟨h1, h2⟩ := mcCells_at z k x hk
      have e1 := hc _ _ h1
      have e2 := hc _ _ h2
      rw [add_off] at e1 e2
      rw [Nat.zero_add]
      exact ⟨e1, e2⟩
theorem McIn.open {w : World} {v : Value} {z : List Mc} (h : McIn w v z) : (z = [] ∧ ∃ a cap, v = .slice a 0 cap) ∨
    (0 < z.length ∧ ∃ b off cap, v = .slice (some ⟨b, off, none⟩) z.length cap ∧ z.length ≤ cap ∧ b < w.heap.size ∧ ∀ k x, z[k]? = some x → w.cell? ⟨b, off + k * 2, none⟩ = some (.string (bs x.1)) ∧ w.cell? ⟨b, off + k * 2 + 1, none⟩ = some (.string (bs x.2))) := by
  obtain ⟨a, cap, rfl, h2, _, _, h5⟩ := h
  by_cases h0 : z = []
  · subst h0; exact .inl ⟨rfl, a, cap, rfl⟩
  · rcases h5 with h5 | ⟨b, off, rfl, h6, h7⟩
    · exact absurd h5 h0
    · exact .inr ⟨List.length_pos_iff.2 h0, b, off, cap, rfl, h2, h6, h7⟩
theorem infoMc : (Tryz.prog.info? 109).map (fun i => (i.zero, i.size, i.bytes)) = some (some (.agg #[.string ByteArray.empty, .string ByteArray.empty]), 2, 32) := by kernel_rfl


/-- a row of strings of the call's own -/
def SO (B : Nat) (v : Value) (z : List Str) (w : World) : Prop := w.ownsRow B 9 1 v z.length (z.map encStr)
theorem SO.snoc {B : Nat} {v : Value} {z : List Str} {x : Str} {w : World} (h : w.ownsRow B 9 1 v (z.length + 1) (z.map encStr ++ [.string (bs x)])) : SO B v (z ++ [x]) w := by
  unfold SO; rw [List.length_append, List.map_append]; exact h
theorem cell_one' (w : World) (x : Value) (t : TypeId) : ∀ j u, [x][j]? = some u → (w.alloc (.cells #[x] t)).cell? ((⟨w.heap.size, 0, none⟩ : Addr).add j) = some u := by
  intro j u hj
  match j, hj with
  | 0, hj => simp at hj; subst hj; simp [Addr.add]
  | (j + 1), hj => simp at hj
end Go.Proofs.YtebjofffijnihaaGreatDoor
