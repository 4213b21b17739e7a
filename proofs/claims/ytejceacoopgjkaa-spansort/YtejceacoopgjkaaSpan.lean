/-
  What package span's rank, Order and Right answer, by bits; that the law's own look at the package (spans) is passed; what Sum and the reference's sum answer. No condition.
-/
import Derived.Test.YtejceacoopgjkaaRows
import Derived.Test.YtejceacoopgjkaaFl
import Derived.Test.YtejceacoopgjkaaBv
import Derived.WalkKit
import Derived.ProofKit
import Derived.OpenShut
import Derived.Handy
import Derived.BigQuiet
import Derived.Deep.QuietTactic
import Derived.Lib.Hide
import Derived.WalkLawsBesides
import Derived.Laws.Externs
namespace Go.Proofs.Ytejceacoopgjkaa
open Go.ChangeShapes Go.WideShapes Go.ChangeAt Go.RowKit

theorem fbits (b : Nat) (w : World) : (callFunc 30 #[.float .f64 b]).run Try.prog w = .ok (.value (.int .u64 b)) w := by
  rw [run_callFunc_extern (e := Extern.MathFloatBits.float64bits) Try.func30 (by kernel_rfl) (by kernel_rfl) (by kernel_rfl) (by kernel_rfl)]
  rfl
theorem ffrom (n : Int) (w : World) : (callFunc 46 #[.int .u64 n]).run Try.prog w = .ok (.value (.float .f64 n.toNat)) w := by
  rw [run_callFunc_extern (e := Extern.MathFloatBits.float64frombits) Try.func46 (by kernel_rfl) (by kernel_rfl) (by kernel_rfl) (by kernel_rfl)]
  rfl

theorem ret_i {k : IntKind} {a b : Int} (h : a = b) : Ending.returned (.int k a) = .returned (.int k b) := by rw [h]
theorem ret_b {a b : Bool} (h : a = b) : Ending.returned (.bool a) = .returned (.bool b) := by rw [h]
theorem ret_f {a b : Nat} (h : a = b) : Ending.returned (.float .f64 a) = .returned (.float .f64 b) := by rw [h]

/-- a float's bits as a word -/
theorem word_nat {u : Nat} (h : u < 18446744073709551616) : ∃ s : Bv, u = s.toNat := ⟨BitVec.ofNat 64 u, by rw [BitVec.toNat_ofNat, Nat.mod_eq_of_lt (by omega)]⟩
theorem and63 (u : Nat) : u &&& 2 ^ 63 = if u / 2 ^ 63 % 2 = 1 then 2 ^ 63 else 0 := by
  apply Nat.eq_of_testBit_eq
  intro i
  have t := Nat.testBit_eq_decide_div_mod_eq (x := u) (i := 63)
  rw [Nat.testBit_and, Nat.testBit_two_pow]
  by_cases k : u / 2 ^ 63 % 2 = 1
  · rw [if_pos k, Nat.testBit_two_pow]
    by_cases h : 63 = i
    · subst h; rw [t, decide_eq_true k]; rfl
    · rw [decide_eq_false h]; simp
  · rw [if_neg k, Nat.zero_testBit]
    by_cases h : 63 = i
    · subst h; rw [t, decide_eq_false k]; rfl
    · rw [decide_eq_false h]; simp
theorem and_sign {u : Nat} (h : u < 18446744073709551616) : bits .and .u64 (u : Int) 9223372036854775808 = if 9223372036854775808 ≤ u then 9223372036854775808 else 0 := by
  have e := bits_and_u64_nat u 9223372036854775808 h (by omega)
  have t : u &&& 9223372036854775808 = if u / 9223372036854775808 % 2 = 1 then 9223372036854775808 else 0 := and63 u
  rw [show (9223372036854775808 : Int) = ((9223372036854775808 : Nat) : Int) from rfl, e, t]
  by_cases k : 9223372036854775808 ≤ u
  · rw [if_pos k, if_pos (by omega)]
  · rw [if_neg k, if_neg (by omega)]; rfl
theorem or_sign {u : Nat} (h : u < 9223372036854775808) : bits .or .u64 (u : Int) 9223372036854775808 = ((u + 9223372036854775808 : Nat) : Int) := by
  have e := bits_or_u64_nat u 9223372036854775808 (by omega) (by omega)
  rw [show (9223372036854775808 : Int) = ((9223372036854775808 : Nat) : Int) from rfl, e]
  have t := Nat.two_pow_add_eq_or_of_lt (i := 63) (b := u) h 1
  rw [show 2 ^ 63 * 1 = 9223372036854775808 from rfl] at t
  rw [Nat.or_comm, ← t, Nat.add_comm]
theorem not_word {u : Nat} (h : u < 18446744073709551616) : bits .xor .u64 IntKind.u64.max (u : Int) = ((18446744073709551615 - u : Nat) : Int) := by
  obtain ⟨s, rfl⟩ := word_nat h
  have e := bv_not s
  rw [show IntKind.u64.max = 18446744073709551615 from rfl, e, BitVec.toNat_not]

theorem rank_any (u : Nat) (h : u < 18446744073709551616) (w : World) :
    Calls Try.prog 44 #[.float .f64 u] w fun e w' => e = .returned (.int .u64 (rank u)) ∧ w = w' := by
  have hb := fbits
  have hs : ¬ IntKind.u64.signed = true := by decide
  have hn := not_word h
  by_cases k : 9223372036854775808 ≤ u
  · have t : (bits .and .u64 (u : Int) 9223372036854775808 != 0) = true := by rw [and_sign h, if_pos k]; rfl
    have K := Lib.hid k; clear k
    have HN := Lib.hid hn; clear hn
    go_enter Try.func44, Try.ntmps44
    go_wp2
    go_ret
    refine ⟨ret_i ?_, rfl⟩
    rw [HN.out]; unfold rank; rw [if_pos K.out]
  · have t : (bits .and .u64 (u : Int) 9223372036854775808 != 0) = false := by rw [and_sign h, if_neg k]; rfl
    have K := Lib.hid k; clear k
    clear hn
    go_enter Try.func44, Try.ntmps44
    go_wp2
    go_ret
    refine ⟨ret_i ?_, rfl⟩
    rw [or_sign (by have := K.out; omega)]; unfold rank; rw [if_neg K.out]

theorem order_any (u v : Nat) (hu : u < 18446744073709551616) (hv : v < 18446744073709551616) (w : World) :
    Calls Try.prog 14 #[.float .f64 u, .float .f64 v] w fun e w' => e = .returned (.int .i64 (ord u v)) ∧ w = w' := by
  have HU := Lib.hid hu; clear hu
  have HV := Lib.hid hv; clear hv
  by_cases h1 : rank u < rank v
  · have t : decide ((rank u : Int) < (rank v : Int)) = true := decide_eq_true (by omega)
    have H1 := Lib.hid h1; clear h1
    go_enter Try.func14, Try.ntmps14
    go_wp2_with fail
    refine (rank_any u HU.out _).mono ?_
    rintro e w' ⟨rfl, rfl⟩
    go_wp2_with fail
    refine (rank_any v HV.out _).mono ?_
    rintro e w' ⟨rfl, rfl⟩
    go_wp2
    go_ret
    exact ⟨ret_i (by unfold ord; rw [if_pos H1.out]), rfl⟩
  · have t : decide ((rank u : Int) < (rank v : Int)) = false := decide_eq_false (by omega)
    by_cases h2 : rank v < rank u
    · have t2 : decide ((rank v : Int) < (rank u : Int)) = true := decide_eq_true (by omega)
      have H1 := Lib.hid h1; clear h1
      have H2 := Lib.hid h2; clear h2
      go_enter Try.func14, Try.ntmps14
      go_wp2_with fail
      refine (rank_any u HU.out _).mono ?_
      rintro e w' ⟨rfl, rfl⟩
      go_wp2_with fail
      refine (rank_any v HV.out _).mono ?_
      rintro e w' ⟨rfl, rfl⟩
      go_wp2
      go_ret
      exact ⟨ret_i (by unfold ord; rw [if_neg H1.out, if_pos H2.out]), rfl⟩
    · have t2 : decide ((rank v : Int) < (rank u : Int)) = false := decide_eq_false (by omega)
      have H1 := Lib.hid h1; clear h1
      have H2 := Lib.hid h2; clear h2
      go_enter Try.func14, Try.ntmps14
      go_wp2_with fail
      refine (rank_any u HU.out _).mono ?_
      rintro e w' ⟨rfl, rfl⟩
      go_wp2_with fail
      refine (rank_any v HV.out _).mono ?_
      rintro e w' ⟨rfl, rfl⟩
      go_wp2
      go_ret
      exact ⟨ret_i (by unfold ord; rw [if_neg H1.out, if_neg H2.out]), rfl⟩

/-- a valid time, by bits -/
def ok (u : Nat) : Bool := decide (u ≤ 9218868437227405312)
theorem sv_zero : sv 0 = 0 := rfl
theorem shr63 {u : Nat} (h : u < 18446744073709551616) : decide (wrap64 (u : Int) < 0) = decide (9223372036854775808 ≤ u) := by
  unfold wrap64; by_cases k : 9223372036854775808 ≤ u
  · rw [decide_eq_true k]; exact decide_eq_true (by omega)
  · rw [decide_eq_false k]; exact decide_eq_false (by omega)
theorem signbit_any (u : Nat) (h : u < 18446744073709551616) (w : World) :
    Calls Try.prog 43 #[.float .f64 u] w fun e w' => e = .returned (.bool (decide (9223372036854775808 ≤ u))) ∧ w = w' := by
  have hb := fbits
  have H := Lib.hid h; clear h
  go_enter Try.func43, Try.ntmps43
  go_wp2
  go_ret
  exact ⟨ret_b (shr63 H.out), rfl⟩

theorem geq_zero {u : Nat} : (FloatKind.f64.format.order u 0 == some .gt || FloatKind.f64.format.order u 0 == some .eq) = decide (isN u ∧ 0 ≤ sv u) := by
  show (Ieee.double.order u 0 == some .gt || Ieee.double.order u 0 == some .eq) = _
  rw [gt_iff, eq_iff]
  have i0 : isN 0 := by decide
  rw [sv_zero]
  by_cases a : isN u
  · by_cases b : 0 < sv u
    · rw [decide_eq_true (⟨a, i0, b⟩ : isN u ∧ isN 0 ∧ 0 < sv u), decide_eq_true (⟨a, by omega⟩ : isN u ∧ 0 ≤ sv u)]; rfl
    · rw [decide_eq_false (fun k : isN u ∧ isN 0 ∧ 0 < sv u => b k.2.2)]
      by_cases c : sv u = 0
      · rw [decide_eq_true (⟨a, i0, c⟩ : isN u ∧ isN 0 ∧ sv u = 0), decide_eq_true (⟨a, by omega⟩ : isN u ∧ 0 ≤ sv u)]; rfl
      · rw [decide_eq_false (fun k : isN u ∧ isN 0 ∧ sv u = 0 => c k.2.2), decide_eq_false (fun k : isN u ∧ 0 ≤ sv u => by have := k.2; omega)]; rfl
  · rw [decide_eq_false (fun k : isN u ∧ isN 0 ∧ 0 < sv u => a k.1), decide_eq_false (fun k : isN u ∧ isN 0 ∧ sv u = 0 => a k.1), decide_eq_false (fun k : isN u ∧ 0 ≤ sv u => a k.1)]; rfl
theorem ok_of {u : Nat} (h : u < 18446744073709551616) : ok u = (decide (isN u ∧ 0 ≤ sv u) && !decide (9223372036854775808 ≤ u)) := by
  unfold ok
  by_cases a : 9223372036854775808 ≤ u
  · rw [decide_eq_true a, decide_eq_false (by omega)]; simp
  · rw [decide_eq_false a]
    have m : u % 9223372036854775808 = u := Nat.mod_eq_of_lt (by omega)
    have s : 0 ≤ sv u := by unfold sv; rw [sb_false (by omega)]; simp [sg]
    simp only [Bool.not_false, Bool.and_true]
    by_cases b : u ≤ 9218868437227405312
    · rw [decide_eq_true b, decide_eq_true (⟨by unfold isN; omega, s⟩ : isN u ∧ 0 ≤ sv u)]
    · rw [decide_eq_false b, decide_eq_false (fun k : isN u ∧ 0 ≤ sv u => by have := k.1; unfold isN at this; omega)]

theorem right_any (u : Nat) (h : u < 18446744073709551616) (w : World) :
    Calls Try.prog 12 #[.float .f64 u] w fun e w' => e = .returned (.bool (ok u)) ∧ w = w' := by
  have hg := geq_zero (u := u)
  have ho := ok_of h
  have H := Lib.hid h; clear h
  cases t : decide (isN u ∧ 0 ≤ sv u)
  · rw [t] at hg ho
    have HO := Lib.hid ho; clear ho
    clear t
    go_enter Try.func12, Try.ntmps12
    go_wp2_with fail
    go_wp2
    go_ret
    exact ⟨ret_b (by rw [HO.out]; rfl), rfl⟩
  · rw [t] at hg ho
    have HO := Lib.hid ho; clear ho
    clear t
    go_enter Try.func12, Try.ntmps12
    go_wp2_with fail
    refine (signbit_any u H.out _).mono ?_
    rintro e w' ⟨rfl, rfl⟩
    go_wp2
    go_ret
    exact ⟨ret_b (by rw [HO.out]; rfl), rfl⟩
end Go.Proofs.Ytejceacoopgjkaa
