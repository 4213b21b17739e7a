/-
  What package line's survives answers. Condition: the string is shorter than 2^32 bytes.
-/
import Derived.Test.YtnfjcclblggbiaaDoorLPb
import Derived.Test.YtnfjcclblggbiaaDoorLJn
namespace Go.Proofs.YtnfjcclblggbiaaDoor
open Go.ChangeShapes Go.WideShapes Go.ChangeAt Go.RowKit

theorem joinR_few (s : Str) : (joinR s).1.length ≤ 20000 := by
  unfold joinR
  split
  · simp
  · split
    · have h1 := linesAt_length 0 (phys s)
      have h2 := phys_count s
      show (linesAt 0 (phys s)).length ≤ 20000
      omega
    · simp
theorem surv_no {t : Str} (h : ¬ ((joinR (esc t)).2 = 0 ∧ (joinR (esc t)).1.length = 1 ∧ ((joinR (esc t)).1.getD 0 (0, [])).2 = t)) : surv t = false := decide_eq_false h
set_option maxHeartbeats 1000000 in
theorem surv_any (t : Str) (w : World) (hx : t.length < 4294967281) (hm : MX w) :
    Calls Tryd.prog 34 #[.string (bs t)] w fun e w' => e = .returned (.bool (surv t)) ∧ Below w.heap.size w w' := by
  have HQ := Lib.hid (quoted_any t w hx hm)
  have HM := Lib.hid hm; clear hm
  have SE : (bs (esc t)).size ≤ 9223372036854775807 := by rw [bs_size]; have := esc_le t; omega
  have HJ : Hid (∀ w, MX w → Calls Tryd.prog 7 #[.string (bs (esc t))] w (JPost (esc t) w)) := fun w hm => join_any (bs (esc t)) w SE hm
  have JL := Lib.hid (joinR_few (esc t))
  have NO : Hid (¬ ((joinR (esc t)).2 = 0 ∧ (joinR (esc t)).1.length = 1 ∧ ((joinR (esc t)).1.getD 0 (0, [])).2 = t) → surv t = false) := surv_no
  have YES : Hid (((joinR (esc t)).2 = 0 ∧ (joinR (esc t)).1.length = 1 ∧ ((joinR (esc t)).1.getD 0 (0, [])).2 = t) → surv t = true) := fun h => decide_eq_true h
  have BB : Hid (∀ a b : Str, ((bs a).toList == (bs b).toList) = decide (a = b)) := fun a b => by rw [bs_toList, bs_toList]; by_cases h : a = b <;> simp [h]
  clear SE hx
  generalize surv t = sv at *
  go_enter Tryd.func34, Tryd.ntmps34
  go_wp2_with fail
  refine HQ.out.mono ?_
  rintro e w1 ⟨rfl, q⟩
  have M1 := Lib.hid (HM.out.later q)
  have B1 := Lib.hid q; clear q
  go_wp2_with fail
  refine (HJ.out _ M1.out).mono ?_
  rintro e w2 ⟨v, rfl, h1, h2⟩
  have B2 := Lib.hid (B1.out.trans (h2.mono B1.out.size)); clear h2
  have I := Lib.hid (LIn.own h1 (Nat.le_trans JL.out (by decide))); clear h1
  generalize (joinR (esc t)).2 = E at *
  generalize (joinR (esc t)).1 = Z at *
  by_cases hE : E = 0
  · subst hE
    by_cases hZ : Z.length = 1
    · obtain ⟨y, rfl⟩ := List.length_eq_one_iff.1 hZ
      clear hZ
      rcases I.out.open with ⟨hz, _⟩ | ⟨_, b, off, cap, rfl, hcap, hlt, hc⟩
      · cases hz
      · obtain ⟨c0, c1⟩ := hc 0 y rfl
        rw [Nat.zero_mul, Nat.add_zero] at c0 c1
        clear hc
        simp only [List.length_cons, List.length_nil, Nat.zero_add]
        have e2 := BB.out y.2 t
        by_cases hy : y.2 = t
        · rw [decide_eq_true hy] at e2
          have E0 := YES.out ⟨rfl, rfl, hy⟩
          subst E0
          clear hy
          go_wp2
          go_ret
          exact ⟨rfl, B2.out⟩
        · rw [decide_eq_false hy] at e2
          have E0 := NO.out (fun h => hy h.2.2)
          subst E0
          clear hy
          go_wp2
          go_ret
          exact ⟨rfl, B2.out⟩
    · have E0 := NO.out (fun h => hZ h.2.1)
      subst E0
      obtain ⟨a, cap, rfl, _⟩ := I.out
      have t1 : ((Z.length : Int) == 1) = false := by rw [beq_eq_false_iff_ne]; omega
      clear hZ
      go_wp2
      go_ret
      exact ⟨rfl, B2.out⟩
  · have E0 := NO.out (fun h => hE h.1)
    subst E0
    have t1 : (E == 0) = false := by rw [beq_eq_false_iff_ne]; exact hE
    clear hE
    go_wp2
    go_ret
    exact ⟨rfl, B2.out⟩
end Go.Proofs.YtnfjcclblggbiaaDoor
