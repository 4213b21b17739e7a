/-
  The law RuleJoin, walked. No condition beyond the form's own.
-/
import Derived.Test.YtihiohohocfchaaNRise
import Derived.Test.YtihiohohocfchaaRHas
namespace Go.Proofs.Ytihiohohocfchaa
set_option maxRecDepth 100000
set_option linter.unusedVariables false
open Go.ChangeShapes Go.WideShapes Go.ChangeAt Go.RowKit

theorem JoinR.bad {l z : List Rl} {x : Int} (h : JoinR l z x) (hx : x ≠ 0) : z = [] := by
  cases h <;> first | rfl | exact absurd rfl hx
theorem JoinR.fine {l z : List Rl} {x : Int} (h : JoinR l z x) (hx : x = 0) : z = (uniq (allT l)).map (oneR l) ∧ firstR l = 0 ∧ l.length ≤ 100 ∧ (uniq (allT l)).length ≤ 64 ∧ ∀ t ∈ uniq (allT l), (needsR l t).length ≤ 64 := by
  cases h with
  | large _ => cases hx
  | fault _ h => exact absurd hx h
  | many => cases hx
  | needs => cases hx
  | ok h1 h2 h3 h4 => exact ⟨rfl, h2, h1, h3, h4⟩
theorem allT_mem {l : List Rl} {t : Str} : t ∈ allT l ↔ ∃ r ∈ l, t ∈ r.1 := by unfold allT; rw [List.mem_flatMap]
theorem needs_good {l : List Rl} (h : firstR l = 0) (t : Str) : (needsR l t).all good = true := by
  rw [List.all_eq_true]
  intro y hy
  obtain ⟨r, hr, _, hyr⟩ := (needs_spec l t y).1 hy
  exact List.all_eq_true.1 (chk_ok (first_ok h r hr)).2.2.2.2 y hyr
theorem join_small {l z : List Rl} (hz : z = (uniq (allT l)).map (oneR l)) (hf : firstR l = 0) (hn : ∀ t ∈ uniq (allT l), (needsR l t).length ≤ 64) :
    ∀ r ∈ z, (r.1.length ≤ 17592186044416 ∧ r.2.length ≤ 17592186044416) ∧ (∀ x ∈ r.1, x.length ≤ 9223372036854775807) ∧ ∀ x ∈ r.2, x.length ≤ 9223372036854775807 := by
  subst hz
  intro r hr
  obtain ⟨t, ht, rfl⟩ := List.mem_map.1 hr
  refine ⟨⟨by simp [oneR], by have := hn t ht; show (needsR l t).length ≤ _; omega⟩, fun x hx => ?_, small_all (needs_good hf t)⟩
  have : x = t := by simpa [oneR] using hx
  subst this
  exact small_all (allgood hf) x (uniq_mem.1 ht)
theorem hasR_iff {t n : Str} {r : Rl} : hasR t n r = true ↔ t ∈ r.1 ∧ n ∈ r.2 := by
  unfold hasR; rw [Bool.and_eq_true, decide_eq_true_iff, decide_eq_true_iff]
theorem isR_iff {t : Str} {r : Rl} : isR t r = true ↔ t ∈ r.1 := by
  unfold isR; rw [decide_eq_true_iff]
theorem join_has {l z : List Rl} (hz : z = (uniq (allT l)).map (oneR l)) (t n : Str) : l.any (hasR t n) = z.any (hasR t n) := by
  subst hz
  rw [Bool.eq_iff_iff, List.any_eq_true, List.any_eq_true]
  constructor
  · rintro ⟨r, hr, h⟩
    obtain ⟨h1, h2⟩ := hasR_iff.1 h
    exact ⟨oneR l t, List.mem_map.2 ⟨t, uniq_mem.2 (allT_mem.2 ⟨r, hr, h1⟩), rfl⟩, hasR_iff.2 ⟨List.mem_singleton.2 rfl, (needs_spec l t n).2 ⟨r, hr, h1, h2⟩⟩⟩
  · rintro ⟨r, hr, h⟩
    obtain ⟨t', ht', rfl⟩ := List.mem_map.1 hr
    obtain ⟨h1, h2⟩ := hasR_iff.1 h
    obtain rfl : t = t' := List.mem_singleton.1 h1
    obtain ⟨r, hr', h3, h4⟩ := (needs_spec l t n).1 h2
    exact ⟨r, hr', hasR_iff.2 ⟨h3, h4⟩⟩
theorem join_is {l z : List Rl} (hz : z = (uniq (allT l)).map (oneR l)) (t : Str) : l.any (isR t) = z.any (isR t) := by
  subst hz
  rw [Bool.eq_iff_iff, List.any_eq_true, List.any_eq_true]
  constructor
  · rintro ⟨r, hr, h⟩
    exact ⟨oneR l t, List.mem_map.2 ⟨t, uniq_mem.2 (allT_mem.2 ⟨r, hr, isR_iff.1 h⟩), rfl⟩, isR_iff.2 (List.mem_singleton.2 rfl)⟩
  · rintro ⟨r, hr, h⟩
    obtain ⟨t', ht', rfl⟩ := List.mem_map.1 hr
    obtain rfl : t = t' := List.mem_singleton.1 (isR_iff.1 h)
    obtain ⟨r, hr', h⟩ := allT_mem.1 (uniq_mem.1 ht')
    exact ⟨r, hr', isR_iff.2 h⟩
theorem join_tg {l z : List Rl} (hz : z = (uniq (allT l)).map (oneR l)) {k : Nat} (hk : k < z.length) : tg z k = [(uniq (allT l)).getD k []] := by
  subst hz
  rw [List.length_map] at hk
  unfold tg
  rw [List.getD, List.getElem?_map, List.getD, List.getElem?_eq_getElem hk]
  rfl
end Go.Proofs.Ytihiohohocfchaa
