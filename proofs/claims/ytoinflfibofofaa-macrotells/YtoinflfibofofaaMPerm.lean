/-
  Macros in another order, and with one more: in plain words. No condition.
-/
import Derived.Test.YtoinflfibofofaaMSem
namespace Go.Proofs.Ytoinflfibofofaa
set_option linter.unusedVariables false

theorem names_perm {z y : List Mc} (h : y.Perm z) (hd : (names z).Nodup) : (names y).Nodup := (List.Perm.map (Prod.fst (α := Str) (β := Str)) h).nodup_iff.2 hd
theorem look_perm {z y : List Mc} (h : y.Perm z) (hd : (names z).Nodup) (x : Str) : look y x = look z x := by
  cases e : look z x with
  | some v =>
    have := look_of (names_perm h hd) (m := (x, v)) (h.mem_iff.2 (look_mem e))
    exact this
  | none =>
    cases e2 : look y x with
    | none => rfl
    | some v =>
      have := look_of hd (m := (x, v)) (h.mem_iff.1 (look_mem e2))
      rw [show look z x = some v from this] at e
      cases e
theorem ev_perm {z y : List Mc} (h : y.Perm z) (hd : (names z).Nodup) : ∀ k : Nat, ev y k = ev z k
  | 0 => rfl
  | k + 1 => by
    funext x
    rw [ev, ev, look_perm h hd, ev_perm h hd k]
theorem Fine.perm {z y : List Mc} (h : y.Perm z) (F : Fine z) : Fine y := by
  obtain ⟨h1, h2, h3, k, h4⟩ := F
  exact ⟨by rw [h.length_eq]; exact h1, names_perm h h2, fun m hm => h3 m (h.mem_iff.1 hm), k, fun m hm => by rw [ev_perm h h2]; exact h4 m (h.mem_iff.1 hm)⟩
theorem Exp.perm {z y : List Mc} {s t : Str} (h : y.Perm z) (E : Exp z s t) : Exp y s t := by
  obtain ⟨F, k, e⟩ := E
  exact ⟨F.perm h, k, by rw [ev_perm h F.2.1]; exact e⟩
theorem look_more {z : List Mc} (x : Mc) {n v : Str} (h : look z n = some v) : look (z ++ [x]) n = some v := by
  unfold look at h ⊢
  rw [List.find?_append]
  cases e : z.find? fun m => m.1 == n with
  | none => rw [e] at h; cases h
  | some m => rw [e] at h; exact h
theorem ev_more {z : List Mc} (x : Mc) : ∀ (k : Nat) (n t : Str), ev z k n = some t → ev (z ++ [x]) k n = some t
  | 0, n, t, h => by cases h
  | k + 1, n, t, h => by
    rw [ev] at h ⊢
    cases hl : look z n with
    | none => rw [hl] at h; cases h
    | some v => rw [hl] at h; rw [look_more x hl]; rw [Option.bind_some] at h ⊢; exact val_mono (ev_more x k) h
theorem Exp.more {z : List Mc} {x : Mc} {s a b : Str} (h : Exp z s a) (g : Exp (z ++ [x]) s b) : a = b := by
  obtain ⟨_, k, h⟩ := h
  obtain ⟨F, j, g⟩ := g
  exact Exp.one ⟨F, k, val_mono (ev_more x k) h⟩ ⟨F, j, g⟩
end Go.Proofs.Ytoinflfibofofaa
