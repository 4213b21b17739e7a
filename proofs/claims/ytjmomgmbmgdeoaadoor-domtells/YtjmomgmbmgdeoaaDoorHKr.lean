/-
  The document's answer (package millwrightref) for knots: Tied, TiedParts, Numbers, FoldedRows. No condition.
-/
import Derived.Test.YtjmomgmbmgdeoaaDoorHKb
import Derived.Test.YtjmomgmbmgdeoaaDoorHRf
import Derived.Test.YtjmomgmbmgdeoaaDoorHKa
namespace Go.Proofs.YtjmomgmbmgdeoaaDoor
set_option maxRecDepth 100000
set_option linter.unusedVariables false
open Go.ChangeShapes Go.WideShapes Go.ChangeAt Go.RowKit

/-! Tied -/
theorem stR_all (r : List Bv) (s : Bv) : stR r s (-1) = allR r s := by unfold stR; rw [if_pos (by decide)]
/-! TiedParts -/
/-! Numbers -/
def NumsPost (s : Bv) (w : World) (e : Ending) (w' : World) : Prop :=
  ∃ v, e = .returned v ∧ w'.ownsRow w.heap.size 3 1 v (cnt s) (ints (nums s)) ∧ Below w.heap.size w w'
theorem numsTo_succ (s : Bv) (k : Nat) : numsTo s (k + 1) = if s.getLsbD k then numsTo s k ++ [k] else numsTo s k := rfl
set_option maxHeartbeats 1000000 in
theorem numbers_any (s : Bv) (w : World) : Calls Tryd.prog 27 #[.int .u64 s.toNat] w (NumsPost s w) := by
  obtain ⟨i0, hi, hz0, hz1, hz2⟩ := info_parts infoInt
  have HI := Lib.hid hi; clear hi
  have HZ0 := Lib.hid hz0; clear hz0
  have HZ1 := Lib.hid hz1; clear hz1
  have HZ2 := Lib.hid hz2; clear hz2
  go_enter Tryd.func27, Tryd.ntmps27
  go_wp2_with fail
  go_loopw [3, 5] (fun v i wr => ∃ k : Nat, k ≤ 64 ∧ i = .int .i64 k ∧ wr.ownsRow w.heap.size 3 1 v (cntTo s.getLsbD k) (ints (numsTo s k)) ∧ Below w.heap.size w wr) (fun _ i _ => 64 - (intOf i).toNat)
  case atStart => exact ⟨0, by omega, rfl, World.ownsRow_nil _ _ _ _, Below.refl _ _⟩
  case round =>
    obtain ⟨k, hk, rfl, hown, hb⟩ := hrel
    have HO := Lib.hid hown; clear hown
    have HB := Lib.hid hb; clear hb
    by_cases hlt : k < 64
    · cases hs : s.getLsbD k
      · have HS := Lib.hid hs; clear hs
        go_wp2_with fail
        refine (in_nat s k _ hlt false HS.out).mono ?_
        rintro e w' ⟨rfl, rfl⟩
        go_wp2
        go_roundw
        case rel =>
          refine ⟨k + 1, by omega, by go_num, ?_, HB.out⟩
          rw [cntTo_succ, numsTo_succ, HS.out]
          exact HO.out
        case measure => simp [intOf]; omega
      · have HS := Lib.hid hs; clear hs
        have hcl := cntTo_le s.getLsbD k
        go_wp2_with fail
        refine (in_nat s k _ hlt true HS.out).mono ?_
        rintro e w' ⟨rfl, rfl⟩
        go_wp2_with (at_builtin; refine wpList_append_own _ rfl _ _ 23 rfl w.heap.size 3 i0 (.int .i64 0) 1 8 Tryd.underlying23 HI.out HZ0.out HZ1.out HZ2.out rfl (by decide) _ _ _ rfl (HO.out.alloc _) ⟨wr.heap.size, 0, none⟩ 1 1 [.int .i64 (k : Int)] rfl rfl ?c1 ?c2 ?c3 ?c4 ?c5 ?_)
        case c1 =>
          intro i u hu
          match i, hu with
          | 0, hu => simp at hu; subst hu; simp [Addr.add]
        case c2 => intro u hu; simp at hu; subst hu; rfl
        case c3 => unfold maxLen; omega
        case c4 => omega
        case c5 => have := HB.out.size; simp; omega
        intro v' w1 hown1 hgrow1 _
        have hb1 : Below w.heap.size w w1 := (HB.out.alloc HB.out.size _).grown hgrow1 (by have := HB.out.size; simp; omega) (fun g hg => (HO.out.lt g hg).1)
        have HB1 := Lib.hid hb1; clear hb1 hgrow1
        have HO1 := Lib.hid hown1; clear hown1
        go_wp2
        go_roundw
        case rel =>
          refine ⟨k + 1, by omega, by go_num, ?_, HB1.out⟩
          rw [cntTo_succ, numsTo_succ, HS.out, if_pos rfl, if_pos rfl, ints_append]
          exact HO1.out
        case measure => simp [intOf]; omega
    · obtain rfl : k = 64 := by omega
      go_wp2
      go_ret
      exact ⟨_, rfl, HO.out, HB.out⟩
end Go.Proofs.YtjmomgmbmgdeoaaDoor
