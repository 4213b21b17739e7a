/-
  The laws' own helpers: good, has, reaches; slices.Equal of the same rows. Condition of reaches: the table of math/bits lies in memory as its text lays it (the card ties this).
-/
import Derived.Test.YtjmomgmbmgdeoaaDoorHRc
namespace Go.Proofs.YtjmomgmbmgdeoaaDoor
set_option maxRecDepth 100000
set_option linter.unusedVariables false
open Go.ChangeShapes Go.WideShapes Go.ChangeAt Go.RowKit

theorem bit_walk (s : Bv) (k : Nat) : (bits .and .u64 ((s.toNat : Int) / 2 ^ k) 1 == 1) = s.getLsbD k := by
  have h : bits .and .u64 ((s.toNat : Int) / 2 ^ k) 1 = (((s >>> k) &&& 1#64).toNat : Int) := by rw [bv_shr]; exact bv_and _ 1#64
  have hb : s.getLsbD k = decide (s.toNat / 2 ^ k % 2 = 1) := by
    show s.toNat.testBit k = _
    rw [Nat.testBit_eq_decide_div_mod_eq]
  rw [h, hb, BitVec.toNat_and, BitVec.toNat_ushiftRight, Nat.shiftRight_eq_div_pow, show (1#64 : Bv).toNat = 1 from rfl, Nat.and_one_is_mod, Bool.eq_iff_iff, beq_iff_eq, decide_eq_true_iff]
  omega
theorem bad_any (x : Int) (w : World) : Calls Tryd.prog 33 #[.int .i64 x] w fun e w' => e = .returned (.bool (x != 0)) ∧ w' = w := by
  go_enter Tryd.func33, Tryd.ntmps33
  go_wp2
  go_ret
  exact ⟨rfl, rfl⟩

/-! good -/
/-- whether an error is among them -/
def anyBad (l : List Int) : Prop := ∃ k, k < l.length ∧ l.getD k 0 ≠ 0
set_option maxHeartbeats 1000000 in
theorem idxL_any (b : Nat) (l : List Int) (w : World) (hn : l.length ≤ 64) (hc : ∀ k, k < l.length → w.cell? ⟨b, k, none⟩ = some (.int .i64 (l.getD k 0))) :
    Calls Tryd.prog 41 #[.slice (some ⟨b, 0, none⟩) l.length l.length, .func (.func 33) #[] #[]] w fun e w' =>
      ((anyBad l ∧ ∃ k : Nat, k ≤ 64 ∧ e = .returned (.int .i64 (k : Int))) ∨ (¬ anyBad l ∧ e = .returned (.int .i64 (-1)))) ∧ w' = w := by
  have en := Tryd.call33
  have HC := Lib.hid hc; clear hc
  have YES : Hid (∀ k, k < l.length → l.getD k 0 ≠ 0 → anyBad l) := fun k hk h => ⟨k, hk, h⟩
  have NO : Hid ((∀ k, k < l.length → l.getD k 0 = 0) → ¬ anyBad l) := fun h ⟨k, hk, hb⟩ => hb (h k hk)
  generalize anyBad l = P at *
  generalize l.length = n at *
  go_enter Tryd.func41, Tryd.ntmps41
  go_wp2_with fail
  go_loopw [8] (fun i wr => ∃ k : Nat, k ≤ n ∧ i = .int .i64 k ∧ (∀ j, j < k → l.getD j 0 = 0) ∧ wr = w) (fun i _ => n - (intOf i).toNat)
  case atStart => exact ⟨0, Nat.zero_le _, rfl, fun j hj => absurd hj (Nat.not_lt_zero _), rfl⟩
  case round =>
    obtain ⟨k, hk, rfl, qa, rfl⟩ := hrel
    have QA := Lib.hid qa; clear qa
    by_cases hkl : k < n
    · have c0 := HC.out k hkl
      have YK := Lib.hid (YES.out k hkl)
      have NX : Hid (l.getD k 0 = 0 → ∀ j, j < k + 1 → l.getD j 0 = 0) := fun h j hj => by
        rcases Nat.lt_succ_iff_lt_or_eq.1 hj with h' | rfl
        · exact QA.out j h'
        · exact h
      generalize l.getD k 0 = x at *
      have BX := Lib.hid (fun W => bad_any x W)
      by_cases hx : x = 0
      · have NX1 := Lib.hid (NX.out hx)
        subst hx
        clear NX YK
        go_wp2_with fail
        refine (BX.out _).mono ?_
        rintro e w' ⟨rfl, rfl⟩
        go_wp2
        go_roundw
        case rel => exact ⟨k + 1, by omega, by go_num, NX1.out, trivial⟩
        case measure => simp [intOf]; omega
      · have YP := Lib.hid (YK.out hx)
        have t1 : (x != 0) = true := bne_iff_ne.2 hx
        clear NX YK hx
        go_wp2_with fail
        refine (BX.out _).mono ?_
        rintro e w' ⟨rfl, rfl⟩
        go_wp2
        go_ret
        exact ⟨.inl ⟨YP.out, k, by omega, rfl⟩, rfl⟩
    · obtain rfl : k = n := by omega
      have NP := Lib.hid (NO.out QA.out)
      go_wp2
      go_ret
      exact ⟨.inr ⟨NP.out, rfl⟩, rfl⟩
theorem conL_any (b : Nat) (l : List Int) (w : World) (hn : l.length ≤ 64) (hc : ∀ k, k < l.length → w.cell? ⟨b, k, none⟩ = some (.int .i64 (l.getD k 0))) :
    Calls Tryd.prog 32 #[.slice (some ⟨b, 0, none⟩) l.length l.length, .func (.func 33) #[] #[]] w fun e w' =>
      ((anyBad l ∧ e = .returned (.bool true)) ∨ (¬ anyBad l ∧ e = .returned (.bool false))) ∧ w' = w := by
  have IX := Lib.hid (idxL_any b l w hn hc)
  clear hc
  generalize anyBad l = P at *
  generalize l.length = n at *
  go_enter Tryd.func32, Tryd.ntmps32
  go_wp2_with fail
  refine IX.out.mono ?_
  rintro e w' ⟨⟨h1, k, _, rfl⟩ | ⟨h1, rfl⟩, rfl⟩
  · have H1 := Lib.hid h1; clear h1
    have t1 : (0 : Int) ≤ (k : Int) := by omega
    go_wp2
    go_ret
    exact ⟨.inl ⟨H1.out, rfl⟩, rfl⟩
  · have H1 := Lib.hid h1; clear h1
    go_wp2
    go_ret
    exact ⟨.inr ⟨H1.out, rfl⟩, rfl⟩
theorem goodL_any (b : Nat) (l : List Int) (w : World) (hn : l.length ≤ 64) (hc : ∀ k, k < l.length → w.cell? ⟨b, k, none⟩ = some (.int .i64 (l.getD k 0))) :
    Calls Tryd.prog 20 #[.slice (some ⟨b, 0, none⟩) l.length l.length] w fun e w' =>
      ((anyBad l ∧ e = .returned (.bool false)) ∨ (¬ anyBad l ∧ e = .returned (.bool true))) ∧ w' = w := by
  have CX := Lib.hid (conL_any b l w hn hc)
  clear hc
  generalize anyBad l = P at *
  generalize l.length = n at *
  go_enter Tryd.func20, Tryd.ntmps20
  go_wp2_with fail
  refine CX.out.mono ?_
  rintro e w' ⟨⟨h1, rfl⟩ | ⟨h1, rfl⟩, rfl⟩
  · have H1 := Lib.hid h1; clear h1
    go_wp2
    go_ret
    exact ⟨.inl ⟨H1.out, rfl⟩, rfl⟩
  · have H1 := Lib.hid h1; clear h1
    go_wp2
    go_ret
    exact ⟨.inr ⟨H1.out, rfl⟩, rfl⟩
theorem good2_any (x y : Int) (w : World) (t : TypeId) :
    Calls Tryd.prog 20 #[.slice (some ⟨w.heap.size, 0, none⟩) 2 2] (w.alloc (.cells #[.int .i64 x, .int .i64 y] t)) fun e w' =>
      (((x ≠ 0 ∨ y ≠ 0) ∧ e = .returned (.bool false)) ∨ ((x = 0 ∧ y = 0) ∧ e = .returned (.bool true))) ∧ w' = w.alloc (.cells #[.int .i64 x, .int .i64 y] t) := by
  have B := blk_new w #[.int .i64 x, .int .i64 y] t
  refine (goodL_any w.heap.size [x, y] _ (by simp) (fun k hk => ?_)).mono ?_
  · match k, hk with
    | 0, _ => exact B.cell rfl
    | 1, _ => exact B.cell rfl
    | k + 2, hk => exact absurd hk (by simp)
  · rintro e w' ⟨⟨h1, rfl⟩ | ⟨h1, rfl⟩, rfl⟩
    · obtain ⟨k, hk, hb⟩ := h1
      refine ⟨.inl ⟨?_, rfl⟩, rfl⟩
      match k, hk, hb with
      | 0, _, hb => exact .inl hb
      | 1, _, hb => exact .inr hb
      | k + 2, hk, _ => exact absurd hk (by simp)
    · refine ⟨.inr ⟨⟨?_, ?_⟩, rfl⟩, rfl⟩
      · exact Decidable.not_not.1 fun h => h1 ⟨0, by simp, h⟩
      · exact Decidable.not_not.1 fun h => h1 ⟨1, by simp, h⟩
theorem goodZ_any (n : Nat) (w : World) (o : Obj) (b : Nat) (hn : n ≤ 64) (hc : ∀ k, k < n → (w.alloc o).cell? ⟨b, k, none⟩ = some (.int .i64 0)) :
    Calls Tryd.prog 20 #[.slice (some ⟨b, 0, none⟩) n n] (w.alloc o) fun e w' => e = .returned (.bool true) ∧ w' = w.alloc o := by
  have h := goodL_any b (List.replicate n 0) (w.alloc o) (by rw [List.length_replicate]; exact hn) (fun k hk => by
    rw [List.length_replicate] at hk
    rw [hc k hk, List.getD, List.getElem?_replicate]; simp [hk])
  rw [List.length_replicate] at h
  refine h.mono ?_
  rintro e w' ⟨⟨⟨k, hk, hb⟩, rfl⟩ | ⟨_, rfl⟩, rfl⟩
  · refine absurd ?_ hb
    rw [List.length_replicate] at hk
    rw [List.getD, List.getElem?_replicate]; simp [hk]
  · exact ⟨rfl, rfl⟩

/-! has -/
theorem has_any (s : Bv) (n : Nat) (w : World) (hn : n < 64) :
    Calls Tryd.prog 19 #[.int .u64 (s.toNat : Int), .int .i64 (n : Int)] w fun e w' => e = .returned (.bool (s.getLsbD n)) ∧ w' = w := by
  have h1 : ((n : Int) < 64) := by omega
  have BW := bit_walk s n
  generalize s.getLsbD n = q at *
  generalize hx : (bits .and .u64 ((s.toNat : Int) / 2 ^ n) 1) = x at *
  go_enter Tryd.func19, Tryd.ntmps19
  go_wp2
  go_ret
  exact ⟨rfl, rfl⟩

/-! reaches -/
theorem r0_in : RowsIn [2#64, 0#64] := by
  refine ⟨by decide, fun i => ?_⟩
  match i with
  | 0 => exact setIn_iff.2 (by decide +kernel)
  | 1 => exact setIn_iff.2 (by decide +kernel)
  | i + 2 => intro k _; rw [wAt_ge (by simp)]; simp
theorem r0_ck : ckW [2#64, 0#64] [1#64] = 0 := ckW_one.2 ⟨r0_in, setIn_iff.2 (by decide +kernel)⟩
theorem r0_all : frR [2#64, 0#64] 1#64 = 3#64 := by rw [frR_ok r0_ck]; decide +kernel
end Go.Proofs.YtjmomgmbmgdeoaaDoor
