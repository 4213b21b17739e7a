/-
  The document's answer (package millwrightref) for orders and cycles: Ordered, IsWalk, IsRing; slices.Equal of the same numbers. No condition.
-/
import Derived.Test.YtjmomgmbmgdeoaaDoorHKx
import Derived.Test.YtjmomgmbmgdeoaaDoorHKo
namespace Go.Proofs.YtjmomgmbmgdeoaaDoor
set_option maxRecDepth 100000
set_option linter.unusedVariables false
open Go.ChangeShapes Go.WideShapes Go.ChangeAt Go.RowKit

/-! Ordered -/
theorem fit_no1 {r : List Bv} {s : Bv} {i : Nat} (h : s.getLsbD i = true) : fit r s i = false := by unfold fit; rw [h]; rfl
theorem fit_no2 {r : List Bv} {s : Bv} {i : Nat} (h : wAt r i &&& ~~~s ≠ 0#64) : fit r s i = false := by unfold fit; rw [decide_eq_false h, Bool.and_false]
theorem fit_yes {r : List Bv} {s : Bv} {i : Nat} (h : s.getLsbD i = false) (k : wAt r i &&& ~~~s = 0#64) : fit r s i = true := by unfold fit; rw [h, decide_eq_true k]; rfl
/-! slices.Equal of the same numbers -/
set_option maxHeartbeats 4000000 in
theorem equalI_same {w : World} {v1 v2 : Value} {l : List Nat} (h1 : NI w v1 l) (h2 : NI w v2 l) (hl : l.length ≤ 64) :
    Calls Tryd.prog 13 #[v1, v2] w fun e w' => e = .returned (.bool true) ∧ ∃ q, w' = w.drewN q := by
  obtain ⟨a, c, rfl, _, hc⟩ := h1
  obtain ⟨a', c', rfl, _, hc'⟩ := h2
  have HC := Lib.hid hc; have HC' := Lib.hid hc'
  clear hc hc'
  generalize l.length = L at *
  go_enter Tryd.func13, Tryd.ntmps13
  go_wp2_with fail
  go_loopw [13] (fun i wr => ∃ k : Nat, k ≤ L ∧ i = .int .i64 k ∧ ∃ m, wr = w.drewN m) (fun i _ => L - (intOf i).toNat)
  case atStart => exact ⟨0, Nat.zero_le _, rfl, 0, rfl⟩
  case round =>
    obtain ⟨k, hk, rfl, m, rfl⟩ := hrel
    by_cases hkl : k < L
    · obtain ⟨b, off, rfl, c1⟩ := HC.out k hkl
      obtain ⟨b', off', rfl, c3⟩ := HC'.out k hkl
      generalize ((iAt l k : Nat) : Int) = p at *
      have e1 : (p != p) = false := by simp
      go_wp2_with fail
      go_quiet (fail)
      go_wp2
      go_roundw
      case rel => exact ⟨k + 1, by omega, by go_num, _, rfl⟩
      case measure => simp [intOf]; omega
    · obtain rfl : k = L := by omega
      go_wp2
      go_ret
      exact ⟨rfl, _, rfl⟩

/-! IsWalk, IsRing -/
theorem ring_walk {r : List Bv} {l : List Nat} (h : RingL r l) {i : Nat} (hi : i + 1 < l.length) : (wAt r (iAt l i)).getLsbD (iAt l (i + 1)) = true := by
  have := (ring_at h (i := i) (by omega)).2.2.1
  rwa [Nat.mod_eq_of_lt hi] at this
theorem ring_end {r : List Bv} {l : List Nat} (h : RingL r l) : (wAt r (iAt l (l.length - 1))).getLsbD (iAt l 0) = true := by
  have hp := h.pos
  have := (ring_at h (i := l.length - 1) (by omega)).2.2.1
  rwa [show l.length - 1 + 1 = l.length by omega, Nat.mod_self] at this
end Go.Proofs.YtjmomgmbmgdeoaaDoor
