/-
  What the document's answer (package millwrightref) reckons for sets of numbers, in terms of words. No condition.
-/
import Derived.Test.YtodlfklpjnofjaaDoorNumsF
namespace Go.Proofs.YtodlfklpjnofjaaDoor
open Go.ChangeShapes Go.WideShapes Go.ChangeAt Go.RowKit

/-! In -/
theorem in_walk (s : Bv) (n : Nat) : (((s.toNat : Int) / 2 ^ n).tmod 2 == 1) = s.getLsbD n := by
  have e : ((s.toNat : Int) / 2 ^ n) = ((s.toNat / 2 ^ n : Nat) : Int) := by simp
  have hb : s.getLsbD n = decide (s.toNat / 2 ^ n % 2 = 1) := by
    show s.toNat.testBit n = _
    rw [Nat.testBit_eq_decide_div_mod_eq]
  rw [e, hb, Int.tmod_eq_emod_of_nonneg (Int.natCast_nonneg _)]
  generalize s.toNat / 2 ^ n = x
  by_cases h : x % 2 = 1
  · rw [decide_eq_true h, beq_iff_eq]; omega
  · rw [decide_eq_false h]
    cases hc : ((x : Int) % 2 == 1)
    · rfl
    · rw [beq_iff_eq] at hc; omega
theorem in_nat (s : Bv) (n : Nat) (w : World) (hn : n < 64) (b : Bool) (hb : s.getLsbD n = b) :
    Calls Tryd.prog 25 #[.int .u64 s.toNat, .int .i64 n] w fun e w' => e = .returned (.bool b) ∧ w = w' := by
  have h1 : ((n : Int) < 64) := by omega
  have HB := Lib.hid hb; clear hb
  go_enter Tryd.func25, Tryd.ntmps25
  go_wp2
  go_ret
  refine ⟨?_, rfl⟩
  show Ending.returned (.bool (((s.toNat : Int) / 2 ^ n).tmod 2 == 1)) = _
  rw [in_walk, HB.out]

/-! UpTo -/
theorem bv_add (x y : Bv) : IntKind.u64.wrap ((x.toNat : Int) + (y.toNat : Int)) = ((x + y).toNat : Int) := by
  rw [IntKind.wrap_u64, BitVec.toNat_add]; simp
theorem add_one_or (x : Bv) (n : Nat) (h : x.getLsbD n = false) : x + one n = x ||| one n := by
  apply BitVec.add_eq_or_of_and_eq_zero
  apply bv_ext
  intro i hi
  rw [BitVec.getLsbD_and, one_bit n i hi]
  by_cases e : i = n
  · subst e; simp [h]
  · simp [e]
theorem plus_walk (x : Bv) (n : Nat) (hn : n < 64) (h : x.getLsbD n = false) : IntKind.u64.wrap ((x.toNat : Int) + IntKind.u64.wrap (2 ^ n)) = ((x ||| one n).toNat : Int) := by
  rw [one_walk n hn, bv_add, add_one_or x n h]
theorem low_step (k : Nat) : low k ||| one k = low (k + 1) := by
  apply bv_ext
  intro i hi
  rw [BitVec.getLsbD_or, low_bit k i hi, low_bit (k + 1) i hi, one_bit k i hi, Bool.eq_iff_iff]
  simp; omega
theorem upto_any (n : Nat) (w : World) (hn : n ≤ 64) :
    Calls Tryd.prog 10 #[.int .i64 n] w fun e w' => e = .returned (.int .u64 (low n).toNat) ∧ w = w' := by
  have h1 : ((n : Int) ≤ 64) := by omega
  go_enter Tryd.func10, Tryd.ntmps10
  go_wp2
  go_loop [3, 6] (fun v i => ∃ k : Nat, k ≤ n ∧ v = .int .u64 (low k).toNat ∧ i = .int .i64 k) (fun _ i => n - (intOf i).toNat)
  case atStart => exact ⟨0, Nat.zero_le _, rfl, rfl⟩
  case round =>
    obtain ⟨k, hk, rfl, rfl⟩ := hrel
    by_cases hlt : k < n
    · go_wp2
      go_round
      case rel =>
        refine ⟨k + 1, by omega, ?_, by go_num⟩
        rw [plus_walk (low k) k (by omega) (by rw [low_bit k k (by omega)]; simp), low_step k]
      case measure => simp [intOf]; omega
    · obtain rfl : k = n := by omega
      go_wp2
      go_ret
      exact ⟨rfl, rfl⟩

/-! Numbers -/
def NumsPost (s : Bv) (w : World) (e : Ending) (w' : World) : Prop :=
  ∃ v, e = .returned v ∧ w'.ownsRow w.heap.size 3 1 v (cnt s) (ints (nums s)) ∧ Below w.heap.size w w'
theorem numsTo_succ (s : Bv) (k : Nat) : numsTo s (k + 1) = if s.getLsbD k then numsTo s k ++ [k] else numsTo s k := rfl

set_option maxHeartbeats 1000000 in
theorem numbers_any (s : Bv) (w : World) : Calls Tryd.prog 11 #[.int .u64 s.toNat] w (NumsPost s w) := by
  obtain ⟨i0, hi, hz0, hz1, hz2⟩ := info_parts infoInt
  have HI := Lib.hid hi; clear hi
  have HZ0 := Lib.hid hz0; clear hz0
  have HZ1 := Lib.hid hz1; clear hz1
  have HZ2 := Lib.hid hz2; clear hz2
  go_enter Tryd.func11, Tryd.ntmps11
  go_wp2_with fail
  go_loopw [3, 5] (fun v i wr => ∃ k : Nat, k ≤ 64 ∧ i = .int .i64 k ∧ wr.ownsRow w.heap.size 3 1 v (cntTo s.getLsbD k) (ints (numsTo s k)) ∧ Below w.heap.size w wr) (fun _ i _ => 64 - (intOf i).toNat)
  case atStart => exact ⟨0, by omega, rfl, World.ownsRow_nil _ _ _ _, Below.refl _ _⟩
  case round =>
    obtain ⟨k, hk, rfl, hown, hb⟩ := hrel
    have HO := Lib.hid hown; clear hown
    have HB := Lib.hid hb; clear hb
    by_cases hlt : k < 64
    · cases hs : s.getLsbD k
      · have HS := Lib.hid hs; clear hs
        go_wp2_with fail
        refine (in_nat s k _ hlt false HS.out).mono ?_
        rintro e w' ⟨rfl, rfl⟩
        go_wp2
        go_roundw
        case rel =>
          refine ⟨k + 1, by omega, by go_num, ?_, HB.out⟩
          rw [cntTo_succ, numsTo_succ, HS.out]
          exact HO.out
        case measure => simp [intOf]; omega
      · have HS := Lib.hid hs; clear hs
        have hcl := cntTo_le s.getLsbD k
        go_wp2_with fail
        refine (in_nat s k _ hlt true HS.out).mono ?_
        rintro e w' ⟨rfl, rfl⟩
        go_wp2_with (at_builtin; refine wpList_append_own _ rfl _ _ 22 rfl w.heap.size 3 i0 (.int .i64 0) 1 8 Tryd.underlying22 HI.out HZ0.out HZ1.out HZ2.out rfl (by decide) _ _ _ rfl (HO.out.alloc _) ⟨wr.heap.size, 0, none⟩ 1 1 [.int .i64 (k : Int)] rfl rfl ?c1 ?c2 ?c3 ?c4 ?c5 ?_)
        case c1 =>
          intro i u hu
          match i, hu with
          | 0, hu => simp at hu; subst hu; simp [Addr.add]
        case c2 => intro u hu; simp at hu; subst hu; rfl
        case c3 => unfold maxLen; omega
        case c4 => omega
        case c5 => have := HB.out.size; simp; omega
        intro v' w1 hown1 hgrow1 _
        have hb1 : Below w.heap.size w w1 := (HB.out.alloc HB.out.size _).grown hgrow1 (by have := HB.out.size; simp; omega) (fun g hg => (HO.out.lt g hg).1)
        have HB1 := Lib.hid hb1; clear hb1 hgrow1
        have HO1 := Lib.hid hown1; clear hown1
        go_wp2
        go_roundw
        case rel =>
          refine ⟨k + 1, by omega, by go_num, ?_, HB1.out⟩
          rw [cntTo_succ, numsTo_succ, HS.out, if_pos rfl, if_pos rfl, ints_append]
          exact HO1.out
        case measure => simp [intOf]; omega
    · obtain rfl : k = 64 := by omega
      go_wp2
      go_ret
      exact ⟨_, rfl, HO.out, HB.out⟩
end Go.Proofs.YtodlfklpjnofjaaDoor
