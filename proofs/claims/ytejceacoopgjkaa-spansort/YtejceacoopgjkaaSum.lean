/-
  What package span's Sum and the reference's TimeSum answer: the same function of the numbers' bits; and that the law's own look at package span (spans) is passed. No condition.
-/
import Derived.Test.YtejceacoopgjkaaSpan
namespace Go.Proofs.Ytejceacoopgjkaa
open Go.ChangeShapes Go.WideShapes Go.ChangeAt Go.RowKit

/-- the sum so far; none: it is a NaN -/
def addS : Option Nat → Nat → Option Nat
  | some r, x => Ieee.double.add r x
  | none, _ => none
def sumTo (f : Nat → Nat) : Nat → Option Nat
  | 0 => some 0
  | k + 1 => addS (sumTo f k) (f k)
def endS : Option Nat → Nat
  | some b => if isN b then b else 9221120237041090561
  | none => 9221120237041090561
/-- b are the bits that stand for the state -/
def St (st : Option Nat) (b : Nat) : Prop := st = some b ∨ st = none ∧ ¬ isN b

theorem add_nan {b x : Nat} (h : ¬ isN b) : Ieee.double.add b x = none := by
  unfold isN at h
  unfold Ieee.Format.add
  obtain ⟨f, e⟩ := read_nan b (by omega)
  rw [e]; cases Ieee.double.read x <;> rfl
theorem st_some {st : Option Nat} {b x r : Nat} (h : St st b) (k : Ieee.double.add b x = some r) : St (addS st x) r := by
  rcases h with rfl | ⟨rfl, h⟩
  · exact .inl k
  · rw [add_nan h] at k; cases k
theorem st_none {st : Option Nat} {b x b' : Nat} (h : St st b) (k : Ieee.double.add b x = none) (hn : ¬ isN b') : St (addS st x) b' := by
  rcases h with rfl | ⟨rfl, _⟩
  · exact .inr ⟨k, hn⟩
  · exact .inr ⟨rfl, hn⟩
theorem st_end {st : Option Nat} {b : Nat} (h : St st b) : endS st = if isN b then b else 9221120237041090561 := by
  rcases h with rfl | ⟨rfl, h⟩
  · rfl
  · rw [if_neg h]; rfl
theorem sumTo_lt (f : Nat → Nat) : ∀ k r, sumTo f k = some r → r < 18446744073709551616
  | 0, r, h => by cases h; decide
  | k + 1, r, h => by
    unfold sumTo at h
    cases e : sumTo f k with
    | none => rw [e] at h; cases h
    | some b => rw [e] at h; exact Ieee.double.add_lt h
theorem endS_lt (f : Nat → Nat) (k : Nat) : endS (sumTo f k) < 18446744073709551616 := by
  cases e : sumTo f k with
  | none => decide
  | some b => show (if _ then _ else _) < _; split; exact sumTo_lt f k b e; decide

theorem nan_add (x y : Nat) (h : Ieee.double.add x y = none) (t : TypeId) (w : World) : ∃ b, ¬ isN b ∧ (binOp .add t (.float .f64 x) (.float .f64 y)).run Try.prog w = .ok (.float .f64 b) w.drew := by
  have h' : FloatKind.f64.format.add x y = none := h
  refine ⟨Question.cut (.nanBits .f64 x y) (w.tape w.drawn (.nanBits .f64 x y)), ?_, ?_⟩
  · generalize w.tape w.drawn (.nanBits .f64 x y) = t
    unfold isN
    show ¬ ((t % 2) * 2 ^ 63 + 0x7ff0000000000000 + 1 + (t / 2) % (2 ^ 52 - 1)) % 9223372036854775808 ≤ _
    have h1 : t % 2 < 2 := Nat.mod_lt _ (by omega)
    have h2 : t / 2 % (2 ^ 52 - 1) < 2 ^ 52 - 1 := Nat.mod_lt _ (by omega)
    generalize t % 2 = a at h1 ⊢
    generalize t / 2 % (2 ^ 52 - 1) = c at h2 ⊢
    have : a = 0 ∨ a = 1 := by omega
    rcases this with rfl | rfl <;> omega
  · simp [binOp, Op.floatArith, h', Question.forced]

theorem isNaN_run (b : Nat) : (FloatKind.f64.format.order b b != some .eq) = !decide (isN b) := by
  show (!(Ieee.double.order b b == some .eq)) = _
  rw [eq_iff]
  by_cases h : isN b
  · rw [decide_eq_true (⟨h, h, rfl⟩ : isN b ∧ isN b ∧ sv b = sv b), decide_eq_true h]
  · rw [decide_eq_false (fun k : isN b ∧ isN b ∧ sv b = sv b => h k.1), decide_eq_false h]

theorem drewN_drew (w : World) (m : Nat) : (w.drewN m).drew = w.drewN (m + 1) := by simp

set_option maxHeartbeats 1000000 in
theorem sum_any (n c bk off : Nat) (f : Nat → Nat) (w : World) (hn : n ≤ 4611686018427387904)
    (hc : ∀ k, k < n → w.cell? ⟨bk, off + k, none⟩ = some (.float .f64 (f k))) :
    Calls Try.prog 17 #[.slice (some ⟨bk, off, none⟩) n c] w fun e w' => e = .returned (.float .f64 (endS (sumTo f n))) ∧ ∃ m, w' = w.drewN m := by
  have HC := Lib.hid hc; clear hc
  have hfr := ffrom
  go_enter Try.func17, Try.ntmps17
  go_wp2_with fail
  go_loopw [3, 8] (fun s i wr => ∃ k : Nat, k ≤ n ∧ i = .int .i64 k ∧ (∃ b, St (sumTo f k) b ∧ s = .float .f64 b) ∧ ∃ m, wr = w.drewN m) (fun _ i _ => n - (intOf i).toNat)
  case atStart => exact ⟨0, Nat.zero_le _, rfl, ⟨0, .inl rfl, rfl⟩, 0, rfl⟩
  case round =>
    obtain ⟨k, hk, rfl, ⟨b, hst, rfl⟩, m, rfl⟩ := hrel
    have HS := Lib.hid hst; clear hst
    by_cases hlt : k < n
    · have c1 := HC.out k hlt
      cases ha : Ieee.double.add b (f k) with
      | some r =>
        have hr := fun w => run_float_arith (P := Try.prog) w .add 22 .f64 b (f k) r ha
        have HA := Lib.hid ha; clear ha
        go_wp2
        go_roundw
        case rel => exact ⟨k + 1, by omega, by go_num, ⟨r, st_some HS.out HA.out, rfl⟩, m, rfl⟩
        case measure => simp [intOf]; omega
      | none =>
        obtain ⟨b', hb', hr⟩ := nan_add b (f k) ha 22 (w.drewN m)
        have HA := Lib.hid ha; clear ha
        have HB := Lib.hid hb'; clear hb'
        go_wp2
        go_roundw
        case rel => exact ⟨k + 1, by omega, by go_num, ⟨b', st_none HS.out HA.out HB.out, rfl⟩, m + 1, by simp⟩
        case measure => simp [intOf]; omega
    · obtain rfl : k = n := by omega
      have he := st_end HS.out
      have ht := isNaN_run b
      by_cases hN : isN b
      · rw [decide_eq_true hN] at ht
        rw [if_pos hN] at he
        have HE := Lib.hid he; clear he
        have HN := Lib.hid hN; clear hN
        go_wp2
        go_ret
        exact ⟨ret_f HE.out.symm, m, rfl⟩
      · rw [decide_eq_false hN] at ht
        rw [if_neg hN] at he
        have HE := Lib.hid he; clear he
        have HN := Lib.hid hN; clear hN
        go_wp2
        go_ret
        exact ⟨ret_f HE.out.symm, m, rfl⟩

theorem sum_none (a : Option Addr) (c : Nat) (w : World) :
    Calls Try.prog 17 #[.slice a 0 c] w fun e w' => e = .returned (.float .f64 0) ∧ w = w' := by
  have ht := isNaN_run 0
  rw [decide_eq_true (show isN 0 by decide)] at ht
  go_enter Try.func17, Try.ntmps17
  go_wp2_with fail
  go_rounds 1
  go_ret
  exact ⟨rfl, rfl⟩

set_option maxHeartbeats 1000000 in
theorem spans_true (w : World) :
    Calls Try.prog 29 #[] w fun e w' => e = .returned (.bool true) ∧ Below w.heap.size w w' := by
  have e1 : (FloatKind.f64.format.order 4613937818241073152 4613937818241073152 == some .eq) = true := by decide +kernel
  go_enter Try.func29, Try.ntmps29
  go_wp2_with fail
  refine (sum_any 2 2 _ 0 (fun k => if k = 0 then 4607182418800017408 else 4611686018427387904) _ (by omega) ?_).mono ?_
  · intro k hk
    match k, hk with
    | 0, _ => simp
    | 1, _ => simp
  rintro e w' ⟨rfl, m, rfl⟩
  have e2 : endS (sumTo (fun k => if k = 0 then 4607182418800017408 else 4611686018427387904) 2) = 4613937818241073152 := by decide +kernel
  rw [e2]
  clear e2
  go_wp2_with fail
  refine (order_any _ _ (by omega) (by omega) _).mono ?_
  rintro e w' ⟨rfl, rfl⟩
  rw [show ord 4607182418800017408 4611686018427387904 = -1 by decide +kernel]
  go_wp2
  go_ret
  exact ⟨rfl, below_drewN (Below.alloc (Below.refl _ w) (Nat.le_refl _) _) _⟩
end Go.Proofs.Ytejceacoopgjkaa
