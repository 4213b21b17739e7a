/-
  slices.Equal at two slices of integers: it answers whether they hold the same numbers. Conditions: at most 1000000 elements.
-/
import Derived.Test.YtodlfklpjnofjaaDoorRows
import Derived.WalkKit
import Derived.ProofKit
import Derived.OpenShut
import Derived.Handy
import Derived.BigQuiet
import Derived.Deep.QuietTactic
import Derived.Lib.Hide
namespace Go.Proofs.YtodlfklpjnofjaaDoor
open Go.ChangeShapes Go.WideShapes Go.ChangeAt Go.RowKit

def Eqs (f g : Nat → Int) (n : Nat) : Prop := ∀ k, k < n → f k = g k

theorem ret_bool {a b : Bool} (h : a = b) : Ending.returned (.bool a) = .returned (.bool b) := by rw [h]

theorem drewN_add (w : World) (m n : Nat) : (w.drewN m).drewN n = w.drewN (m + n) := by simp

/-- slices.Equal at two slices of one length, neither nil -/
theorem equal_len (n c1 c2 b1 o1 b2 o2 : Nat) (f g : Nat → Int) (w : World) (hn : n ≤ 1000000) (v : Bool) (hv : v = true ↔ Eqs f g n)
    (h1 : ∀ k, k < n → w.cell? ⟨b1, o1 + k, none⟩ = some (.int .i64 (f k)))
    (h2 : ∀ k, k < n → w.cell? ⟨b2, o2 + k, none⟩ = some (.int .i64 (g k))) :
    Calls Tryd.prog 12 #[.slice (some ⟨b1, o1, none⟩) n c1, .slice (some ⟨b2, o2, none⟩) n c2] w fun e w' => e = .returned (.bool v) ∧ ∃ k, w' = w.drewN k := by
  have H1 := Lib.hid h1; clear h1
  have H2 := Lib.hid h2; clear h2
  have HV := Lib.hid hv; clear hv
  go_enter Tryd.func12, Tryd.ntmps12
  go_wp2_with fail
  go_loopw [13] (fun i wr => ∃ k : Nat, k ≤ n ∧ i = .int .i64 k ∧ Eqs f g k ∧ ∃ m, wr = w.drewN m) (fun i _ => n - (intOf i).toNat)
  case atStart => exact ⟨0, Nat.zero_le _, rfl, fun _ h => absurd h (Nat.not_lt_zero _), 0, rfl⟩
  case round =>
    obtain ⟨k, hk, rfl, he, m, rfl⟩ := hrel
    have HE := Lib.hid he; clear he
    by_cases hlt : k < n
    · have c1 := H1.out k hlt
      have c2 := H2.out k hlt
      by_cases hfg : f k = g k
      · have t : (f k != g k) = false := by simp [hfg]
        have HF := Lib.hid hfg; clear hfg
        go_wp2_with fail
        go_quiet (fail)
        go_wp2
        go_roundw
        case rel =>
          refine ⟨k + 1, by omega, by go_num, ?_, _, rfl⟩
          intro j hj
          rcases Nat.lt_succ_iff_lt_or_eq.1 hj with h | h
          · exact HE.out j h
          · rw [h]; exact HF.out
        case measure => simp [intOf]; omega
      · have t : (f k != g k) = true := by simp [hfg]
        have HF := Lib.hid hfg; clear hfg
        go_wp2_with fail
        go_quiet (fail)
        go_wp2
        go_ret
        refine ⟨ret_bool ?_, _, drewN_add _ _ _⟩
        cases v
        · rfl
        · exact absurd (HV.out.1 rfl k hlt) HF.out
    · go_wp2
      go_ret
      obtain rfl : k = n := by omega
      exact ⟨ret_bool (HV.out.2 HE.out).symm, _, rfl⟩

/-- slices.Equal at two slices of unlike lengths -/
theorem equal_unlike (n1 n2 c1 c2 : Nat) (a1 a2 : Option Addr) (w : World) (h : n1 ≠ n2) :
    Calls Tryd.prog 12 #[.slice a1 n1 c1, .slice a2 n2 c2] w fun e w' => e = .returned (.bool false) ∧ w = w' := by
  have t : ((n1 : Int) != (n2 : Int)) = true := by rw [bne_iff_ne]; omega
  have H := Lib.hid h; clear h
  go_enter Tryd.func12, Tryd.ntmps12
  go_wp2
  go_ret
  exact ⟨rfl, rfl⟩

/-- slices.Equal at two slices of length 0, nil or not -/
theorem equal_none (c1 c2 : Nat) (a1 a2 : Option Addr) (w : World) :
    Calls Tryd.prog 12 #[.slice a1 0 c1, .slice a2 0 c2] w fun e w' => e = .returned (.bool true) ∧ w = w' := by
  go_enter Tryd.func12, Tryd.ntmps12
  go_wp2_with fail
  go_rounds 1
  go_ret
  exact ⟨rfl, rfl⟩
end Go.Proofs.YtodlfklpjnofjaaDoor
