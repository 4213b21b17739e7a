/-
  What the reference's RuleText answers at a rule without a fault: what Print prints. Condition: the rule has no fault.
-/
import Derived.Test.YtdencbkepiaigaaDoorRFt
import Derived.Test.YtdencbkepiaigaaDoorRPrt
import Derived.Test.YtdencbkepiaigaaDoorLRa
namespace Go.Proofs.YtdencbkepiaigaaDoor
set_option linter.unusedVariables false
open Go.ChangeShapes Go.WideShapes Go.ChangeAt Go.RowKit

def flatT (t : List Str) : Str := t.flatMap fun x => x ++ [32]
theorem flatT_take {t : List Str} {k : Nat} (h : k < t.length) : flatT (t.take (k + 1)) = flatT (t.take k) ++ (t.getD k [] ++ [32]) := by
  unfold flatT
  rw [List.take_add_one, List.getElem?_eq_getElem h, List.flatMap_append, List.getD, List.getElem?_eq_getElem h]
  simp
theorem flatT_tail : ∀ (x : Str) (r : List Str), flatT (x :: r) = x ++ Lib.joinTail [32] r ++ [32]
  | x, [] => by simp [flatT, Lib.joinTail]
  | x, y :: r => by
    have ih := flatT_tail y r
    have e : flatT (x :: y :: r) = x ++ [32] ++ flatT (y :: r) := by simp [flatT]
    rw [e, ih]
    simp [Lib.joinTail]
theorem flatT_join {t : List Str} (h : 0 < t.length) : flatT t = Lib.join t [32] ++ [32] := by
  cases t with
  | nil => exact absurd h (Nat.not_lt_zero _)
  | cons x r => rw [flatT_tail, Lib.join_cons]
theorem flatT_len {n : List Str} (h : n.all good = true) : (flatT n).length ≤ 41 * n.length := by
  induction n with
  | nil => simp [flatT]
  | cons x r ih =>
    rw [List.all_cons, Bool.and_eq_true] at h
    have h1 := good_len h.1
    have h2 := ih h.2
    have e : flatT (x :: r) = (x ++ [32]) ++ flatT r := by simp [flatT]
    rw [e]
    simp only [List.length_append, List.length_cons, List.length_nil]
    omega
theorem all_take {z : List Str} (h : z.all good = true) (k : Nat) : (z.take k).all good = true := by
  rw [List.all_eq_true] at h ⊢
  exact fun x hx => h x (List.mem_of_mem_take hx)

set_option maxHeartbeats 2000000 in
set_option maxRecDepth 100000 in
theorem text_any {w : World} {vt vn : Value} {t n : List Str} (ht : SIn w vt t) (hn : SIn w vn n) (hc : chkR (t, n) = 0) :
    Calls Tryd.prog 14 #[.agg #[vt, vn]] w fun e w' => e = .returned (.string (bs (printR (t, n)))) ∧ Below w.heap.size w w' := by
  obtain ⟨hl1, hl2, hl3, hg1, hg2⟩ := chk_ok hc
  simp only [] at hl1 hl2 hl3 hg1 hg2
  have BA : Hid (Below w.heap.size w (w.alloc (.cells #[vt, vn] 24))) := (Below.refl _ w).alloc (Nat.le_refl _) _
  have HT := ht.later BA.out
  have HU := hn.later BA.out
  have PR : Hid (printR (t, n) = flatT t ++ [58] ++ flatN n) := Lib.hid (by unfold printR; rw [flatT_join hl3]; simp)
  have FT : Hid (∀ k, k < t.length → flatT (t.take (k + 1)) = flatT (t.take k) ++ (t.getD k [] ++ [32])) := fun k hk => flatT_take hk
  have FN : Hid (∀ k, k < n.length → flatN (n.take (k + 1)) = flatN (n.take k) ++ 32 :: n.getD k []) := fun k hk => flatN_take hk
  have FE : Hid (flatT (t.take t.length) = flatT t ∧ flatN (n.take n.length) = flatN n) := Lib.hid (by rw [List.take_length, List.take_length]; exact ⟨rfl, rfl⟩)
  have LT : Hid (∀ k, (flatT (t.take k)).length ≤ 820) := fun k => by
    have h1 := flatT_len (all_take hg1 k); rw [List.length_take] at h1; omega
  have LTT : Hid ((flatT t).length ≤ 820) := Lib.hid (by have h1 := flatT_len hg1; omega)
  have LN : Hid (∀ k, (flatN (n.take k)).length ≤ 820) := fun k => by
    have h1 := flatN_len (all_take hg2 k); rw [List.length_take] at h1; omega
  have G1 : Hid (∀ k, k < t.length → (t.getD k []).length ≤ 40) := fun k hk => (good_len (List.all_eq_true.1 hg1 _ (getD_mem hk))).2
  have G2 : Hid (∀ k, k < n.length → (n.getD k []).length ≤ 40) := fun k hk => (good_len (List.all_eq_true.1 hg2 _ (getD_mem hk))).2
  obtain ⟨a1, c1, rfl, _, _, _, h5⟩ := HT
  obtain ⟨a2, c2, rfl, _, _, _, h6⟩ := HU
  have HC1 : Hid (∀ k, k < t.length → ∃ b off, a1 = some ⟨b, off, none⟩ ∧ (w.alloc (.cells #[.slice a1 t.length c1, .slice a2 n.length c2] 24)).cell? ⟨b, off + k, none⟩ = some (.string (bs (t.getD k [])))) := fun k hk => by
    rcases h5 with rfl | ⟨b, off, ha, _, hc⟩
    · exact absurd hk (Nat.not_lt_zero _)
    · exact ⟨b, off, ha, hc k hk⟩
  have HC2 : Hid (∀ k, k < n.length → ∃ b off, a2 = some ⟨b, off, none⟩ ∧ (w.alloc (.cells #[.slice a1 t.length c1, .slice a2 n.length c2] 24)).cell? ⟨b, off + k, none⟩ = some (.string (bs (n.getD k [])))) := fun k hk => by
    rcases h6 with rfl | ⟨b, off, ha, _, hc⟩
    · exact absurd hk (Nat.not_lt_zero _)
    · exact ⟨b, off, ha, hc k hk⟩
  clear h5 h6 ht hn hc hg1 hg2 hl3
  generalize t.length = lt at *
  generalize n.length = ln at *
  generalize printR (t, n) = PP at *
  go_enter Tryd.func14, Tryd.ntmps14
  go_wp2_with fail
  go_loopw [3, 11] (fun s i wr => ∃ k : Nat, k ≤ lt ∧ i = .int .i64 (k : Int) ∧ s = .string (bs (flatT (t.take k))) ∧ wr = w.alloc (.cells #[.slice a1 lt c1, .slice a2 ln c2] 24)) (fun _ i _ => lt - (intOf i).toNat)
  case atStart => exact ⟨0, Nat.zero_le _, rfl, rfl, rfl⟩
  case round =>
    obtain ⟨k, hk, rfl, rfl, rfl⟩ := hrel
    by_cases hkl : k < lt
    · obtain ⟨b, off, rfl, d0⟩ := HC1.out k hkl
      have F1 := Lib.hid (FT.out k hkl)
      have g1 := G1.out k hkl
      have l1 := LT.out k
      generalize t.getD k [] = x at *
      generalize flatT (t.take k) = y at *
      have x1 : (bs x).size = x.length := bs_size _
      have x2 : (bs y).size = y.length := bs_size _
      have x3 : bs x ++ ByteArray.mk #[32] = bs (x ++ [32]) := bs_app x [32]
      have x4 : (bs (x ++ [32])).size = x.length + 1 := by rw [bs_size]; simp
      go_wp2
      go_roundw
      case rel =>
        refine ⟨k + 1, by omega, by go_num, ?_, trivial⟩
        rw [F1.out, bs_app]
      case measure => simp [intOf]; omega
    · obtain rfl : k = lt := by omega
      rw [FE.out.1]
      clear HC1 FT LT G1
      have l1 := LTT.out
      generalize hy : flatT t = y at *
      clear hy
      have x2 : (bs y).size = y.length := bs_size _
      have x3 : bs y ++ ByteArray.mk #[58] = bs (y ++ [58]) := bs_app y [58]
      go_wp2_with fail
      go_loopw [3, 25] (fun s i wr => ∃ m : Nat, m ≤ ln ∧ i = .int .i64 (m : Int) ∧ s = .string (bs (y ++ [58] ++ flatN (n.take m))) ∧ wr = w.alloc (.cells #[.slice a1 k c1, .slice a2 ln c2] 24)) (fun _ i _ => ln - (intOf i).toNat)
      case atStart => exact ⟨0, Nat.zero_le _, rfl, by simp [flatN], rfl⟩
      case round =>
        obtain ⟨m, hm, rfl, rfl, rfl⟩ := hrel
        by_cases hml : m < ln
        · obtain ⟨b, off, rfl, d0⟩ := HC2.out m hml
          have F1 := Lib.hid (FN.out m hml)
          have g1 := G2.out m hml
          have l2 := LN.out m
          generalize n.getD m [] = x at *
          generalize flatN (n.take m) = q at *
          obtain ⟨u, hu⟩ : ∃ u, u = y ++ [58] ++ q := ⟨_, rfl⟩
          have lu : u.length ≤ 1641 := by rw [hu, List.length_append, List.length_append, List.length_singleton]; omega
          rw [← hu]
          have HU := Lib.hid hu; clear hu
          have x1 : (bs x).size = x.length := bs_size _
          have y2 : (bs u).size = u.length := bs_size _
          have y3 : ByteArray.mk #[32] ++ bs x = bs (32 :: x) := bs_app [32] x
          have y4 : (bs (32 :: x)).size = x.length + 1 := by rw [bs_size]; simp
          go_wp2
          go_roundw
          case rel =>
            refine ⟨m + 1, by omega, by go_num, ?_, trivial⟩
            rw [F1.out, bs_app, HU.out]; simp
          case measure => simp [intOf]; omega
        · obtain rfl : m = ln := by omega
          rw [FE.out.2]
          go_wp2
          go_ret
          rw [PR.out]
          exact ⟨rfl, BA.out⟩
end Go.Proofs.YtdencbkepiaigaaDoor
