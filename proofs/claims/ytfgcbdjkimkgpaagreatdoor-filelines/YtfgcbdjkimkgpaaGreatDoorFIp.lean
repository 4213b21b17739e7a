/-
  Plain facts for the reference's including: a line's text has a word; the texts' names; rows that a call keeps but for one cell. No condition.
-/
import Derived.Test.YtfgcbdjkimkgpaaGreatDoorFRr
namespace Go.Proofs.YtfgcbdjkimkgpaaGreatDoor
set_option maxRecDepth 100000
set_option linter.unusedVariables false
open Go.ChangeShapes Go.WideShapes Go.ChangeAt Go.RowKit

theorem dw_head {p : UInt8 → Bool} : ∀ {l : Str} {c : UInt8} {r : Str}, l.dropWhile p = c :: r → p c = false
  | [], c, r, h => by cases h
  | d :: l, c, r, h => by
    rw [List.dropWhile_cons] at h
    by_cases hd : p d = true
    · rw [if_pos hd] at h; exact dw_head h
    · rw [if_neg hd] at h
      cases h
      simpa using hd
theorem unc_word {y : Str} (h : unc y ≠ []) : words (unc y) ≠ [] := by
  intro hw
  rw [words_nil] at hw
  unfold unc trimr at h hw
  cases hd : (repl (cut1 false y)).reverse.dropWhile bl with
  | nil => rw [hd] at h; exact h rfl
  | cons c r =>
    have hc := dw_head hd
    rw [hd] at hw
    rw [hw c (by simp)] at hc
    cases hc
theorem linesF_word : ∀ (f n : Nat) (P : List Str), ∀ x ∈ linesF f n P, words x.2 ≠ []
  | 0, _, _, x, hx => by simp [linesF] at hx
  | f + 1, n, P, x, hx => by
    rw [linesF] at hx
    split at hx
    · simp at hx
    · rcases List.mem_append.1 hx with h | h
      · split at h
        · simp at h
        · rename_i hne
          simp at h
          subst h
          exact unc_word hne
      · exact linesF_word f _ _ x h
theorem joinR_word (s : Str) : ∀ x ∈ (joinR s).1, words x.2 ≠ [] := by
  intro x hx
  unfold joinR at hx
  split at hx
  · simp at hx
  · split at hx
    · exact linesF_word _ _ _ x hx
    · simp at hx

theorem look_no {T : List Mc} {y : Str} (h : ∀ i, i < T.length → nm T i ≠ y) : look T y = none := by
  unfold look
  rw [Option.map_eq_none_iff, List.find?_eq_none]
  intro m hm hy
  obtain ⟨i, hi, rfl⟩ := List.getElem_of_mem hm
  refine h i hi ?_
  unfold nm
  rw [List.getD, List.getElem?_eq_getElem hi]
  simpa using hy
theorem look_ix {T : List Mc} (hn : (T.map (·.1)).Nodup) {y : Str} {i : Nat} (hi : i < T.length) (h : nm T i = y) : look T y = some (vl T i) := by
  unfold look
  have hm : (nm T i, vl T i) ∈ T := mem_at hi
  cases hf : T.find? fun m => m.1 == y with
  | none =>
    rw [List.find?_eq_none] at hf
    exact absurd (by simpa using h) (hf _ hm)
  | some m =>
    have h1 := List.mem_of_find?_eq_some hf
    have h2 : m.1 = y := by simpa using List.find?_some hf
    obtain ⟨j, hj, e⟩ := List.getElem_of_mem h1
    have hij : j = i := by
      have hj' : j < (T.map (·.1)).length := by rw [List.length_map]; exact hj
      have hi' : i < (T.map (·.1)).length := by rw [List.length_map]; exact hi
      refine (List.getElem_inj hn (h₀ := hj') (h₁ := hi')).1 ?_
      rw [List.getElem_map, List.getElem_map, e, h2, ← h]
      unfold nm
      rw [List.getD, List.getElem?_eq_getElem hi]; rfl
    subst hij
    show some m.2 = _
    unfold vl
    rw [List.getD, List.getElem?_eq_getElem hj, e]; rfl

/-! a call that keeps all but one block -/
theorem own_kq {w w' : World} {B q : Nat} {e t : TypeId} {s n : Nat} {v : Value} {xs : List Value} {ys : Array Value} (h : w.ownsRow B e s v n xs) (hk : Blk q ys t w) (hne : t ≠ e) (g : w.grownBy w' (some q)) : w'.ownsRow B e s v n xs :=
  World.ownsRow.kept h g (.inr (own_blk h hk hne))
theorem grown_set (w : World) (q i : Nat) (u : Value) : w.grownBy (w.setCell ⟨q, i, none⟩ u) (some q) :=
  ⟨rfl, rfl, rfl, by simp, fun k hk h => Below.heap_setCell _ _ _ _ (fun e => h (by rw [e]))⟩
theorem grown_out {w1 wr w' : World} {q : Nat} {row : Option Nat} (h : w1.grownBy wr (some q)) (g : wr.grownBy w' row) (hr : ∀ k, row = some k → w1.heap.size ≤ k) : w1.grownBy w' (some q) :=
  ⟨g.os.trans h.os, g.tape.trans h.tape, g.output.trans h.output, Nat.le_trans h.size g.size, fun k hk hne => (g.block k (Nat.lt_of_lt_of_le hk h.size) (fun e => by have := hr k e.symm; omega)).trans (h.block k hk hne)⟩
theorem blk_kq {w w' : World} {k q : Nat} {xs : Array Value} {t : TypeId} (h : Blk k xs t w) (hne : k ≠ q) (g : w.grownBy w' (some q)) : Blk k xs t w' := h.at (g.block k h.lt (fun e => hne (by injection e)))
/-- strings behind strings -/
theorem app_list {w : World} {base B2 : Nat} {u v : Value} {y z : List Str} (hu : SO base u y w) (hv : SO B2 v z w) (hb : y.length + z.length ≤ 4096) (hbase : base ≤ w.heap.size) :
    ∃ a c w', (Builtin.append_ #[27, 27] 27 #[u, v]).run Tryz.prog w = .ok (.slice a (y ++ z).length c) w' ∧ SO base (.slice a (y ++ z).length c) (y ++ z) w' ∧ w.grownBy w' u.ownBlock := by
  obtain ⟨i0, hi, hz0, hz1, hz2⟩ := info_parts infoStr
  have hv' := hv
  rcases hv.2 with ⟨rfl, hz⟩ | ⟨g, cap, cur, rfl, _⟩
  · have : z = [] := List.length_eq_zero_iff.1 hz
    subst this
    obtain ⟨a, c, rfl⟩ := own_len hu
    have r := app_none 27 hu none 0
    simp only [List.append_nil]
    exact ⟨a, c, w, r, hu, grown_refl _ _⟩
  · obtain ⟨v4, w4, r4, o4, g4, _⟩ := run_append_own (P := Tryz.prog) w base 27 27 9 i0 (.string ByteArray.empty) 1 16 Tryz.underlying27 hi hz0 hz1 hz2 rfl (by decide) u y.length (y.map encStr) hu ⟨g, 0, none⟩ z.length cap (z.map encStr) (by simp) (hv'.cells (g := g) rfl) (map_one _) (by unfold maxLen; omega) (by omega) hbase
    rw [← List.map_append, ← List.length_append] at o4
    obtain ⟨a, c, rfl⟩ := own_len o4
    exact ⟨a, c, w4, r4, o4, g4⟩
end Go.Proofs.YtfgcbdjkimkgpaaGreatDoor
