/-
  The reference's defined and PairOf. Condition: the strings have at most 2^32 bytes.
-/
import Derived.Test.YtfgcbdjkimkgpaaGreatDoorRRd
import Derived.Deep.RegionHeld3
namespace Go.Proofs.YtfgcbdjkimkgpaaGreatDoor
set_option maxRecDepth 100000
set_option linter.unusedVariables false
open Go.ChangeShapes Go.WideShapes Go.ChangeAt Go.RowKit

/-! defined -/
theorem getD_take_mem {s : Str} {j k : Nat} (hj : j < k) (hk : j < s.length) : s.getD j 0 ∈ s.take k := by
  have h : j < (s.take k).length := by rw [List.length_take]; omega
  have := List.getElem_mem h
  rw [List.getElem_take] at this
  rw [List.getD, List.getElem?_eq_getElem hk]
  exact this
theorem def_colon {s : Str} {k : Nat} (hk : k < s.length) (h : ∀ j, j < k → s.getD j 0 ≠ 61) (hc : s.getD k 0 = 58) : defR s = none := by
  unfold defR
  cases hp : cutB 61 s with
  | none => rfl
  | some p =>
    obtain ⟨h1, h2, h3, h4, h5, h6⟩ := cutB_some hp
    simp only []
    rw [if_pos]
    rw [List.contains_iff_mem, ← h4, ← hc]
    rcases Nat.lt_trichotomy k p.1.length with q | q | q
    · exact getD_take_mem q hk
    · rw [q, h2] at hc; cases hc
    · exact absurd h2 (h _ q)
theorem def_none {s : Str} (h : ∀ j, j < s.length → s.getD j 0 ≠ 61) : defR s = none := by
  unfold defR
  cases hp : cutB 61 s with
  | none => rfl
  | some p =>
    obtain ⟨h1, h2, _⟩ := cutB_some hp
    exact absurd h2 (h _ h1)
theorem def_yes {s : Str} {k : Nat} (hk : k < s.length) (h : ∀ j, j < k → s.getD j 0 ≠ 58 ∧ s.getD j 0 ≠ 61) (hc : s.getD k 0 = 61) : defR s = some (triml (trimr (s.take k)), triml (trimr (s.drop (k + 1)))) := by
  unfold defR
  cases hp : cutB 61 s with
  | none => exact absurd hc (cutB_none hp k hk)
  | some p =>
    obtain ⟨h1, h2, h3, h4, h5, h6⟩ := cutB_some hp
    have e : p.1.length = k := by
      rcases Nat.lt_trichotomy k p.1.length with q | q | q
      · exact absurd hc (h3 k q)
      · exact q.symm
      · exact absurd h2 (h _ q).2
    simp only []
    rw [e] at h4 h5
    rw [if_neg, h4, h5]
    · intro hm
      rw [List.contains_iff_mem, ← h4] at hm
      obtain ⟨j, hj, e2⟩ := List.getElem_of_mem hm
      rw [List.length_take] at hj
      refine (h j (by omega)).1 ?_
      rw [List.getElem_take] at e2
      rw [List.getD, List.getElem?_eq_getElem (by omega)]
      exact e2
theorem eqc (c d : UInt8) : ((c.toNat : Int) == (d.toNat : Int)) = decide (c = d) := by
  rw [Bool.eq_iff_iff, beq_iff_eq, decide_eq_true_iff]
  exact ⟨fun h => UInt8.toNat_inj.1 (by omega), fun h => by rw [h]⟩
set_option maxHeartbeats 4000000 in
theorem rdef_any (S : ByteArray) (w : World) (hs : S.size ≤ 4294967296) :
    Calls Tryz.prog 42 #[.string S] w fun e w' => e = .returned (.tuple #[.agg #[.string (bs (dN S.data.toList)), .string (bs (dV S.data.toList))], .bool (defR S.data.toList).isSome]) ∧ Below w.heap.size w w' := by
  have S0 := Lib.hid (blk_new w #[.string (bs []), .string (bs [])] 72)
  have B0 : Hid (Below w.heap.size w (w.alloc (.cells #[.string (bs []), .string (bs [])] 72))) := (Below.refl _ _).alloc (Nat.le_refl _) _
  have HF : Hid (∀ k (h : k < S.size), S[k].toNat = (bK S k).toNat) := bK_get S
  have HK : Hid (∀ k, bK S k = S.data.toList.getD k 0) := fun _ => rfl
  have X1 : Hid (∀ k, S.extract 0 k = bs (S.data.toList.take k)) := bs_take S
  have X2 : Hid (∀ k, S.extract k S.size = bs (S.data.toList.drop k)) := bs_drop S
  have TT : Hid (∀ (x : Str) W, x.length ≤ 1099511627776 → Calls Tryz.prog 73 #[.string (bs x)] W fun e w' => e = .returned (.string (bs (triml (trimr x)))) ∧ w' = W) := fun x W hx => trimmed_any (bs x) W (by rw [bs_size]; exact hx)
  have L1 : Hid (∀ k, (S.data.toList.take k).length ≤ 1099511627776) := fun k => by show _ ≤ _; rw [List.length_take, size_list]; omega
  have L2 : Hid (∀ k, (S.data.toList.drop k).length ≤ 1099511627776) := fun k => by show _ ≤ _; rw [List.length_drop, size_list]; omega
  have NO : Hid (defR S.data.toList = none → dN S.data.toList = [] ∧ dV S.data.toList = [] ∧ (defR S.data.toList).isSome = false) := fun h => by unfold dN dV; rw [h]; exact ⟨rfl, rfl, rfl⟩
  have YES : Hid (∀ a b, defR S.data.toList = some (a, b) → dN S.data.toList = a ∧ dV S.data.toList = b ∧ (defR S.data.toList).isSome = true) := fun a b h => by unfold dN dV; rw [h]; exact ⟨rfl, rfl, rfl⟩
  have DC : Hid (∀ k, k < S.size → (∀ j, j < k → bK S j ≠ 58 ∧ bK S j ≠ 61) → bK S k = 58 → defR S.data.toList = none) := fun k hk h hc => def_colon (by rw [size_list]; exact hk) (fun j hj => (h j hj).2) hc
  have DY : Hid (∀ k, k < S.size → (∀ j, j < k → bK S j ≠ 58 ∧ bK S j ≠ 61) → bK S k = 61 → defR S.data.toList = some (triml (trimr (S.data.toList.take k)), triml (trimr (S.data.toList.drop (k + 1))))) := fun k hk h hc => def_yes (by rw [size_list]; exact hk) h hc
  have DN : Hid ((∀ j, j < S.size → bK S j ≠ 58 ∧ bK S j ≠ 61) → defR S.data.toList = none) := fun h => def_none fun j hj => (h j (by rw [← size_list]; exact hj)).2
  generalize bK S = f at *
  generalize S.data.toList = s at *
  obtain ⟨c0, c1⟩ := show _ ∧ _ from ⟨S0.out.cell (i := 0) rfl, S0.out.cell (i := 1) rfl⟩
  obtain ⟨f0, f1⟩ := show _ ∧ _ from ⟨S0.out.free 0, S0.out.free 1⟩
  go_enter Tryz.func42, Tryz.ntmps42
  go_wp2_with fail
  go_loopw [7] (fun i wr => ∃ k : Nat, k ≤ S.size ∧ i = .int .i64 (k : Int) ∧ (∀ j, j < k → f j ≠ 58 ∧ f j ≠ 61) ∧ wr = w.alloc (.cells #[.string (bs []), .string (bs [])] 72)) (fun i _ => S.size - (intOf i).toNat)
  case atStart => exact ⟨0, Nat.zero_le _, rfl, fun j hj => absurd hj (Nat.not_lt_zero _), rfl⟩
  case round =>
    obtain ⟨k, hk, rfl, q1, rfl⟩ := hrel
    have Q1 := Lib.hid q1; clear q1
    by_cases hlt : k < S.size
    · have hb := HF.out k hlt
      have e1 : (((f k).toNat : Int) == 58) = decide (f k = 58) := eqc (f k) 58
      have e2 : (((f k).toNat : Int) == 61) = decide (f k = 61) := eqc (f k) 61
      by_cases h58 : f k = 58
      · rw [decide_eq_true h58] at e1
        obtain ⟨n1, n2, n3⟩ := NO.out (DC.out k hlt Q1.out h58)
        have E1 := Lib.hid n1; have E2 := Lib.hid n2; have E3 := Lib.hid n3
        clear h58 n1 n2 n3
        go_wp2
        (try simp only [Exit.inBlock, Exit.then])
        refine bodyPost_ret (v := .tuple #[.agg #[.string (bs []), .string (bs [])], .bool false]) ?_ rfl ⟨by rw [E1.out, E2.out, E3.out], ?_⟩
        · rw [results_cell_tmp rfl]; go_simp; try rfl
        · first | exact B0.out | exact B0.out.drew | exact (B0.out.setCell (by exact Nat.le_refl _) _).setCell (by exact Nat.le_refl _) _ | exact (B0.out.drew.setCell (by exact Nat.le_refl _) _).setCell (by exact Nat.le_refl _) _ | exact ((Below.refl _ w).alloc (Nat.le_refl _) _).drew
      · rw [decide_eq_false h58] at e1
        by_cases h61 : f k = 61
        · rw [decide_eq_true h61] at e2
          obtain ⟨n1, n2, n3⟩ := YES.out _ _ (DY.out k hlt Q1.out h61)
          have E1 := Lib.hid n1; have E2 := Lib.hid n2; have E3 := Lib.hid n3
          have x1 := X1.out k; have x2 := X2.out (k + 1)
          have l1 := L1.out k; have l2 := L2.out (k + 1)
          have i1 : (k : Int) + 1 ≤ (S.size : Int) := by omega
          have i2 : ((k : Int) + 1).toNat = k + 1 := by omega
          have i3 : (0 : Int) ≤ (k : Int) := by omega
          have i4 : (k : Int) ≤ (S.size : Int) := by omega
          have i5 : (0 : Int) ≤ (k : Int) + 1 := by omega
          have i6 : IntKind.i64.wrap ((k : Int) + 1) = (k : Int) + 1 := by unfold IntKind.wrap; simp [IntKind.bits, IntKind.signed]; omega
          generalize s.take k = a at *
          generalize s.drop (k + 1) = b at *
          have C1 : Hid (∀ W, Calls Tryz.prog 73 #[.string (bs a)] W fun e w' => e = .returned (.string (bs (triml (trimr a)))) ∧ w' = W) := fun W => TT.out a W l1
          have C2 : Hid (∀ W, Calls Tryz.prog 73 #[.string (bs b)] W fun e w' => e = .returned (.string (bs (triml (trimr b)))) ∧ w' = W) := fun W => TT.out b W l2
          generalize triml (trimr a) = y1 at *
          generalize triml (trimr b) = y2 at *
          clear h58 h61 n1 n2 n3 TT DC DY DN NO YES l1 l2 L1 L2 X1 X2
          go_wp2_with fail
          go_region_with (first
            | (go_at_call_of 73 (Value.string (bs a)); refine (C1.out _).mono ?_; rintro e w' ⟨rfl, rfl⟩)
            | (go_at_call_of 73 (Value.string (bs b)); refine (C2.out _).mono ?_; rintro e w' ⟨rfl, rfl⟩))
          all_goals go_wp2
          all_goals (try simp only [Exit.inBlock, Exit.then])
          all_goals
            refine bodyPost_ret (v := .tuple #[.agg #[.string (bs y1), .string (bs y2)], .bool true]) ?_ rfl ⟨by rw [E1.out, E2.out, E3.out], ?_⟩
            · rw [results_cell_tmp rfl]; go_simp; try rfl
            · first | exact B0.out | exact B0.out.drew | exact (B0.out.setCell (by exact Nat.le_refl _) _).setCell (by exact Nat.le_refl _) _ | exact (B0.out.drew.setCell (by exact Nat.le_refl _) _).setCell (by exact Nat.le_refl _) _ | exact ((Below.refl _ w).alloc (Nat.le_refl _) _).drew
        · rw [decide_eq_false h61] at e2
          have Q2 : Hid (∀ j, j < k + 1 → f j ≠ 58 ∧ f j ≠ 61) := fun j hj => by
            rcases Nat.lt_succ_iff_lt_or_eq.1 hj with h | rfl
            · exact Q1.out j h
            · exact ⟨h58, h61⟩
          clear h58 h61
          go_wp2
          go_roundw
          case rel => exact ⟨k + 1, by omega, by go_num, Q2.out, trivial⟩
          case measure => simp [intOf]; omega
    · obtain rfl : k = S.size := by omega
      obtain ⟨n1, n2, n3⟩ := NO.out (DN.out Q1.out)
      have E1 := Lib.hid n1; have E2 := Lib.hid n2; have E3 := Lib.hid n3
      clear n1 n2 n3
      go_wp2
      (try simp only [Exit.inBlock, Exit.then])
      refine bodyPost_ret (v := .tuple #[.agg #[.string (bs []), .string (bs [])], .bool false]) ?_ rfl ⟨by rw [E1.out, E2.out, E3.out], ?_⟩
      · rw [results_cell_tmp rfl]; go_simp; try rfl
      · first | exact B0.out | exact B0.out.drew | exact (B0.out.setCell (by exact Nat.le_refl _) _).setCell (by exact Nat.le_refl _) _ | exact (B0.out.drew.setCell (by exact Nat.le_refl _) _).setCell (by exact Nat.le_refl _) _ | exact ((Below.refl _ w).alloc (Nat.le_refl _) _).drew

/-! PairOf -/
theorem pair_first {s : Str} (h : s.getD 0 0 ≠ 46) : pairR s = none := by
  cases s with
  | nil => rfl
  | cons c r => simp [pairR]; intro e; exact absurd e h
theorem pair_slash {s : Str} (h : 47 ∈ s) : pairR s = none := by
  cases s with
  | nil => rfl
  | cons c r =>
    by_cases hc : c = 46
    · subst hc
      rw [pairR_cons]
      have h : 47 ∈ r := by
        rcases List.mem_cons.1 h with q | q
        · cases q
        · exact q
      cases hp : cutB 46 r with
      | none => rfl
      | some p =>
        obtain ⟨_, _, _, _, _, h6⟩ := cutB_some hp
        simp only []
        rw [if_neg]
        intro hh
        rw [Bool.and_eq_true] at hh
        unfold plainS at hh
        simp only [Bool.and_eq_true, Bool.not_eq_true'] at hh
        rw [h6] at h
        rcases List.mem_append.1 h with q | q
        · have := hh.1.2; rw [List.contains_iff_mem.2 q] at this; cases this
        · rcases List.mem_cons.1 q with q | q
          · cases q
          · have := hh.2.2; rw [List.contains_iff_mem.2 q] at this; cases this
    · exact pair_first hc
theorem pair_nodot {s : Str} (h : ∀ j, 0 < j → j < s.length → s.getD j 0 ≠ 46) : pairR s = none := by
  cases s with
  | nil => rfl
  | cons c r =>
    by_cases hc : c = 46
    · subst hc
      rw [pairR_cons]
      cases hp : cutB 46 r with
      | none => rfl
      | some p =>
        obtain ⟨h1, h2, _⟩ := cutB_some hp
        exact absurd h2 (h (p.1.length + 1) (by omega) (by rw [List.length_cons]; omega))
    · exact pair_first hc
theorem pair_dots {s : Str} {a b : Nat} (ha : 0 < a) (hab : a < b) (hb : b < s.length) (h1 : s.getD a 0 = 46) (h2 : s.getD b 0 = 46) : pairR s = none := by
  cases s with
  | nil => rfl
  | cons c r =>
    obtain ⟨a, rfl⟩ : ∃ x, a = x + 1 := ⟨a - 1, by omega⟩
    obtain ⟨b, rfl⟩ : ∃ x, b = x + 1 := ⟨b - 1, by omega⟩
    rw [List.length_cons] at hb
    have h1 : r.getD a 0 = 46 := h1
    have h2 : r.getD b 0 = 46 := h2
    by_cases hc : c = 46
    · subst hc
      rw [pairR_cons]
      cases hp : cutB 46 r with
      | none => rfl
      | some p =>
        obtain ⟨q1, q2, q3, q4, q5, q6⟩ := cutB_some hp
        have hle : p.1.length ≤ a := by
          rcases Nat.lt_or_ge a p.1.length with q | q
          · exact absurd h1 (q3 a q)
          · exact q
        simp only []
        rw [if_neg]
        intro hh
        rw [Bool.and_eq_true] at hh
        unfold plainS at hh
        simp only [Bool.and_eq_true, Bool.not_eq_true'] at hh
        have : (46 : UInt8) ∈ p.2 := by
          have h2' : r.getD b 0 = 46 := h2
          rw [← q5, ← h2']
          have e : r.getD b 0 = (r.drop (p.1.length + 1)).getD (b - (p.1.length + 1)) 0 := by
            rw [List.getD, List.getD, List.getElem?_drop]
            congr 2; omega
          rw [e]
          have hl : b - (p.1.length + 1) < (r.drop (p.1.length + 1)).length := by rw [List.length_drop]; omega
          rw [List.getD, List.getElem?_eq_getElem hl]
          exact List.getElem_mem hl
        have := hh.2.1.2; rw [List.contains_iff_mem.2 ‹46 ∈ p.2›] at this; cases this
    · exact pair_first hc
theorem pair_at {s : Str} {a : Nat} (h47 : 47 ∉ s) (h0 : s.getD 0 0 = 46) (ha : 0 < a) (hb : a < s.length) (h1 : s.getD a 0 = 46) (h : ∀ j, 0 < j → j < s.length → j ≠ a → s.getD j 0 ≠ 46) :
    pairR s = if a < 2 ∨ a = s.length - 1 then none else some (s.take a, s.drop a) := by
  cases s with
  | nil => cases hb
  | cons c r =>
    have hc : c = 46 := h0
    subst hc
    obtain ⟨a, rfl⟩ : ∃ x, a = x + 1 := ⟨a - 1, by omega⟩
    rw [List.length_cons] at hb
    have h1 : r.getD a 0 = 46 := h1
    rw [List.mem_cons, not_or] at h47
    rw [pairR_cons]
    cases hp : cutB 46 r with
    | none => exact absurd h1 (cutB_none hp a (by omega))
    | some p =>
      obtain ⟨q1, q2, q3, q4, q5, q6⟩ := cutB_some hp
      have e : p.1.length = a := by
        rcases Nat.lt_trichotomy a p.1.length with q | q | q
        · exact absurd h1 (q3 a q)
        · exact q.symm
        · exact absurd q2 (h (p.1.length + 1) (by omega) (by rw [List.length_cons]; omega) (by omega))
      have n1 : p.1.contains 46 = false := by
        rw [Bool.eq_false_iff]; intro hm; exact cutB_not hp (List.contains_iff_mem.1 hm)
      have n2 : p.1.contains 47 = false := by
        rw [Bool.eq_false_iff]; intro hm
        refine h47.2 ?_
        rw [q6]; exact List.mem_append_left _ (List.contains_iff_mem.1 hm)
      have n3 : p.2.contains 47 = false := by
        rw [Bool.eq_false_iff]; intro hm
        refine h47.2 ?_
        rw [q6]; exact List.mem_append_right _ (List.mem_cons_of_mem _ (List.contains_iff_mem.1 hm))
      have n4 : p.2.contains 46 = false := by
        rw [Bool.eq_false_iff]; intro hm
        obtain ⟨j, hj, e2⟩ := List.getElem_of_mem (List.contains_iff_mem.1 hm)
        have hl : r.length = p.1.length + (p.2.length + 1) := by conv => lhs; rw [q6]
                                                                 rw [List.length_append, List.length_cons]
        refine h (a + 1 + j + 1) (by omega) (by rw [List.length_cons]; omega) (by omega) ?_
        show r.getD (a + 1 + j) 0 = 46
        rw [← e2, List.getD, q6, List.getElem?_append_right (by omega)]
        rw [show a + 1 + j - p.1.length = j + 1 by omega, List.getElem?_cons_succ, List.getElem?_eq_getElem hj]
        rfl
      have hl : r.length = p.1.length + (p.2.length + 1) := by conv => lhs; rw [q6]
                                                               rw [List.length_append, List.length_cons]
      have m1 : p.1.isEmpty = decide (a + 1 < 2) := by
        rw [Bool.eq_iff_iff, List.isEmpty_iff, decide_eq_true_iff, ← List.length_eq_zero_iff]; omega
      have m2 : p.2.isEmpty = decide (a + 1 = (46 :: r).length - 1) := by
        rw [Bool.eq_iff_iff, List.isEmpty_iff, decide_eq_true_iff, ← List.length_eq_zero_iff, List.length_cons]; omega
      simp only []
      unfold plainS
      rw [n1, n2, n3, n4, m1, m2]
      by_cases c1 : a + 1 < 2
      · rw [if_pos (show a + 1 < 2 ∨ a + 1 = (46 :: r).length - 1 from .inl c1), decide_eq_true c1]; rfl
      · by_cases c2 : a + 1 = (46 :: r).length - 1
        · rw [if_pos (show a + 1 < 2 ∨ a + 1 = (46 :: r).length - 1 from .inr c2), decide_eq_true c2, decide_eq_false c1]; rfl
        · rw [if_neg (show ¬ (a + 1 < 2 ∨ a + 1 = (46 :: r).length - 1) by rintro (q | q); exact c1 q; exact c2 q), decide_eq_false c1, decide_eq_false c2]
          simp only [Bool.not_false, Bool.and_self, if_true]
          rw [List.take_succ_cons, List.drop_succ_cons]
          have t1 : r.take a = p.1 := by rw [← e]; exact q4
          have t2 : r.drop a = 46 :: p.2 := by
            rw [← e]
            conv => lhs; rw [q6]
            simp
          rw [t1, t2]
/-- what PairOf has seen of the first k bytes: where the second dot is (0: none) -/
def Seen (f : Nat → UInt8) (k a : Nat) : Prop := (∀ j, j < k → f j ≠ 47) ∧ (a = 0 ∧ (∀ j, 0 < j → j < k → f j ≠ 46) ∨ 0 < a ∧ a < k ∧ f a = 46 ∧ ∀ j, 0 < j → j < k → j ≠ a → f j ≠ 46)
theorem Seen.skip {f : Nat → UInt8} {k a : Nat} (h : Seen f k a) (h47 : f k ≠ 47) (hd : k = 0 ∨ f k ≠ 46) : Seen f (k + 1) a := by
  obtain ⟨h1, h2⟩ := h
  refine ⟨fun j hj => ?_, ?_⟩
  · rcases Nat.lt_succ_iff_lt_or_eq.1 hj with q | rfl
    · exact h1 j q
    · exact h47
  · have hk : ∀ j, 0 < j → j = k → f j ≠ 46 := fun j h0 e => by
      subst e
      rcases hd with rfl | hd
      · exact absurd h0 (Nat.lt_irrefl _)
      · exact hd
    rcases h2 with ⟨e, h2⟩ | ⟨h0, h3, h4, h5⟩
    · refine .inl ⟨e, fun j h0 hj => ?_⟩
      rcases Nat.lt_succ_iff_lt_or_eq.1 hj with q | q
      · exact h2 j h0 q
      · exact hk j h0 q
    · refine .inr ⟨h0, by omega, h4, fun j hj0 hj hja => ?_⟩
      rcases Nat.lt_succ_iff_lt_or_eq.1 hj with q | q
      · exact h5 j hj0 q hja
      · exact hk j hj0 q
theorem Seen.dot {f : Nat → UInt8} {k : Nat} (h : Seen f k 0) (hk : 0 < k) (h46 : f k = 46) : Seen f (k + 1) k := by
  obtain ⟨h1, h2⟩ := h
  refine ⟨fun j hj => ?_, .inr ⟨hk, by omega, h46, fun j hj0 hj hja => ?_⟩⟩
  · rcases Nat.lt_succ_iff_lt_or_eq.1 hj with q | rfl
    · exact h1 j q
    · rw [h46]; decide
  · rcases h2 with ⟨_, h2⟩ | ⟨q, _⟩
    · exact h2 j hj0 (by omega)
    · exact absurd q (Nat.lt_irrefl _)
set_option maxHeartbeats 4000000 in
theorem rpair_any (S : ByteArray) (w : World) (hs : S.size ≤ 4294967296) :
    Calls Tryz.prog 47 #[.string S] w fun e w' => e = .returned (.tuple #[.agg #[.string (bs (pF S.data.toList)), .string (bs (pT S.data.toList))], .bool (pairR S.data.toList).isSome]) ∧ Below w.heap.size w w' := by
  have S0 := Lib.hid (blk_new w #[.string (bs []), .string (bs [])] 74)
  have B0 : Hid (Below w.heap.size w (w.alloc (.cells #[.string (bs []), .string (bs [])] 74))) := (Below.refl _ _).alloc (Nat.le_refl _) _
  have HF : Hid (∀ k (h : k < S.size), S[k].toNat = (bK S k).toNat) := bK_get S
  have X1 : Hid (∀ k, S.extract 0 k = bs (S.data.toList.take k)) := bs_take S
  have X2 : Hid (∀ k, S.extract k S.size = bs (S.data.toList.drop k)) := bs_drop S
  have NO : Hid (pairR S.data.toList = none → pF S.data.toList = [] ∧ pT S.data.toList = [] ∧ (pairR S.data.toList).isSome = false) := fun h => by unfold pF pT; rw [h]; exact ⟨rfl, rfl, rfl⟩
  have YES : Hid (∀ a b, pairR S.data.toList = some (a, b) → pF S.data.toList = a ∧ pT S.data.toList = b ∧ (pairR S.data.toList).isSome = true) := fun a b h => by unfold pF pT; rw [h]; exact ⟨rfl, rfl, rfl⟩
  have PS : Hid (∀ k, k < S.size → bK S k = 47 → pairR S.data.toList = none) := fun k hk h => pair_slash (by
    rw [← h]; unfold bK
    have hl : k < S.data.toList.length := by rw [size_list]; exact hk
    rw [List.getD, List.getElem?_eq_getElem hl]; exact List.getElem_mem hl)
  have PD : Hid (∀ a b, 0 < a → a < b → b < S.size → bK S a = 46 → bK S b = 46 → pairR S.data.toList = none) := fun a b h0 hab hb h1 h2 => pair_dots h0 hab (by rw [size_list]; exact hb) h1 h2
  have PE : Hid (S.toList = [] → pairR S.data.toList = none) := fun h => by rw [Lib.toList_data] at h; rw [h]; rfl
  have PF : Hid (bK S 0 ≠ 46 → pairR S.data.toList = none) := fun h => pair_first h
  have PN : Hid (Seen (bK S) S.size 0 → pairR S.data.toList = none) := fun h => pair_nodot fun j h0 hj => by
    rcases h.2 with ⟨_, q⟩ | ⟨q, _⟩
    · exact q j h0 (by rw [← size_list]; exact hj)
    · exact absurd q (Nat.lt_irrefl _)
  have PA : Hid (∀ a, 0 < a → Seen (bK S) S.size a → bK S 0 = 46 → pairR S.data.toList = if a < 2 ∨ a = S.size - 1 then none else some (S.data.toList.take a, S.data.toList.drop a)) := fun a h0 h h46 => by
    obtain ⟨h1, h2⟩ := h
    rcases h2 with ⟨q, _⟩ | ⟨_, h3, h4, h5⟩
    · omega
    · have := pair_at (s := S.data.toList) (a := a) (fun hm => by
        obtain ⟨j, hj, e⟩ := List.getElem_of_mem hm
        refine h1 j (by rw [← size_list]; exact hj) ?_
        unfold bK; rw [List.getD, List.getElem?_eq_getElem hj]; exact e) h46 h0 (by rw [size_list]; exact h3) h4 (fun j hj0 hj hja => h5 j hj0 (by rw [← size_list]; exact hj) hja)
      rw [size_list] at this
      exact this
  have SZ : Hid (S.toList = [] ↔ S.size = 0) := by show _ ↔ _; rw [Lib.toList_data, ← size_list, List.length_eq_zero_iff]
  generalize bK S = f at *
  generalize S.data.toList = s at *
  obtain ⟨c0, c1⟩ := show _ ∧ _ from ⟨S0.out.cell (i := 0) rfl, S0.out.cell (i := 1) rfl⟩
  obtain ⟨f0, f1⟩ := show _ ∧ _ from ⟨S0.out.free 0, S0.out.free 1⟩
  go_enter Tryz.func47, Tryz.ntmps47
  go_wp2_with fail
  go_loopw [4, 8] (fun a i wr => ∃ k A : Nat, k ≤ S.size ∧ i = .int .i64 (k : Int) ∧ a = .int .i64 (A : Int) ∧ A ≤ k ∧ Seen f k A ∧ wr = w.alloc (.cells #[.string (bs []), .string (bs [])] 74)) (fun _ i _ => S.size - (intOf i).toNat)
  case atStart => exact ⟨0, 0, Nat.zero_le _, rfl, rfl, Nat.le_refl _, ⟨fun j hj => absurd hj (Nat.not_lt_zero _), .inl ⟨rfl, fun j _ hj => absurd hj (Nat.not_lt_zero _)⟩⟩, rfl⟩
  case round =>
    obtain ⟨k, A, hk, rfl, rfl, hA, q1, rfl⟩ := hrel
    have Q1 := Lib.hid q1; clear q1
    by_cases hlt : k < S.size
    · have hb := HF.out k hlt
      have e1 : (((f k).toNat : Int) == 47) = decide (f k = 47) := eqc (f k) 47
      have e2 : (((f k).toNat : Int) == 46) = decide (f k = 46) := eqc (f k) 46
      by_cases h47 : f k = 47
      · rw [decide_eq_true h47] at e1
        obtain ⟨n1, n2, n3⟩ := NO.out (PS.out k hlt h47)
        have E1 := Lib.hid n1; have E2 := Lib.hid n2; have E3 := Lib.hid n3
        clear h47 n1 n2 n3
        go_wp2
        (try simp only [Exit.inBlock, Exit.then])
        refine bodyPost_ret (v := .tuple #[.agg #[.string (bs []), .string (bs [])], .bool false]) ?_ rfl ⟨by rw [E1.out, E2.out, E3.out], ?_⟩
        · rw [results_cell_tmp rfl]; go_simp; try rfl
        · first | exact B0.out | exact B0.out.drew | exact (B0.out.setCell (by exact Nat.le_refl _) _).setCell (by exact Nat.le_refl _) _ | exact (B0.out.drew.setCell (by exact Nat.le_refl _) _).setCell (by exact Nat.le_refl _) _ | exact ((Below.refl _ w).alloc (Nat.le_refl _) _).drew
      · rw [decide_eq_false h47] at e1
        have z0 : (0 : Int) < (k : Int) ↔ 0 < k := by omega
        by_cases hk0 : 0 < k
        · have t0 : decide ((0 : Int) < (k : Int)) = true := decide_eq_true (by omega)
          by_cases h46 : f k = 46
          · rw [decide_eq_true h46] at e2
            by_cases hA0 : 0 < A
            · have hAk : A < k ∧ f A = 46 := by
                rcases Q1.out.2 with ⟨q, _⟩ | ⟨_, q1, q2, _⟩
                · omega
                · exact ⟨q1, q2⟩
              obtain ⟨n1, n2, n3⟩ := NO.out (PD.out A k hA0 hAk.1 hlt hAk.2 h46)
              have E1 := Lib.hid n1; have E2 := Lib.hid n2; have E3 := Lib.hid n3
              clear h47 h46 n1 n2 n3 hAk z0
              go_wp2
              (try simp only [Exit.inBlock, Exit.then])
              refine bodyPost_ret (v := .tuple #[.agg #[.string (bs []), .string (bs [])], .bool false]) ?_ rfl ⟨by rw [E1.out, E2.out, E3.out], ?_⟩
              · rw [results_cell_tmp rfl]; go_simp; try rfl
              · first | exact B0.out | exact B0.out.drew | exact (B0.out.setCell (by exact Nat.le_refl _) _).setCell (by exact Nat.le_refl _) _ | exact (B0.out.drew.setCell (by exact Nat.le_refl _) _).setCell (by exact Nat.le_refl _) _ | exact ((Below.refl _ w).alloc (Nat.le_refl _) _).drew
            · obtain rfl : A = 0 := by omega
              have NX := Lib.hid (Q1.out.dot hk0 h46)
              clear h47 h46 z0
              go_wp2
              go_roundw
              case rel => exact ⟨k + 1, k, by omega, by go_num, rfl, by omega, NX.out, trivial⟩
              case measure => simp [intOf]; omega
          · rw [decide_eq_false h46] at e2
            have NX := Lib.hid (Q1.out.skip h47 (.inr h46))
            clear h47 h46 z0
            go_wp2
            go_roundw
            case rel => exact ⟨k + 1, A, by omega, by go_num, rfl, by omega, NX.out, trivial⟩
            case measure => simp [intOf]; omega
        · have NX := Lib.hid (Q1.out.skip h47 (.inl (by omega)))
          obtain rfl : k = 0 := by omega
          clear h47 z0
          go_wp2
          go_roundw
          case rel => exact ⟨1, A, by omega, by go_num, rfl, by omega, NX.out, trivial⟩
          case measure => simp [intOf]; omega
    · obtain rfl : k = S.size := by omega
      clear hlt
      by_cases hz : S.toList = []
      · obtain ⟨n1, n2, n3⟩ := NO.out (PE.out hz)
        have E1 := Lib.hid n1; have E2 := Lib.hid n2; have E3 := Lib.hid n3
        have g1 : (S.toList == ([] : List UInt8)) = true := by rw [hz]; rfl
        have g2 : S.toList.isEmpty = true := by rw [hz]; rfl
        clear n1 n2 n3 hz
        go_wp2
        (try simp only [Exit.inBlock, Exit.then])
        refine bodyPost_ret (v := .tuple #[.agg #[.string (bs []), .string (bs [])], .bool false]) ?_ rfl ⟨by rw [E1.out, E2.out, E3.out], ?_⟩
        · rw [results_cell_tmp rfl]; go_simp; try rfl
        · first | exact B0.out | exact B0.out.drew | exact (B0.out.setCell (by exact Nat.le_refl _) _).setCell (by exact Nat.le_refl _) _ | exact (B0.out.drew.setCell (by exact Nat.le_refl _) _).setCell (by exact Nat.le_refl _) _ | exact ((Below.refl _ w).alloc (Nat.le_refl _) _).drew
      · have hn : 0 < S.size := Nat.pos_of_ne_zero fun e => hz (SZ.out.2 e)
        have g1 : (S.toList == ([] : List UInt8)) = false := by rw [beq_eq_false_iff_ne]; exact hz
        have g2 : S.toList.isEmpty = false := by rw [Bool.eq_false_iff]; intro e; exact hz (List.isEmpty_iff.1 e)
        have hb := HF.out 0 hn
        have e2 : (((f 0).toNat : Int) != 46) = !decide (f 0 = 46) := congrArg Bool.not (eqc (f 0) 46)
        clear hz
        by_cases h46 : f 0 = 46
        · rw [decide_eq_true h46] at e2
          by_cases hA2 : A < 2
          · have hp : pairR s = none := by
              rcases Nat.eq_zero_or_pos A with rfl | h
              · exact PN.out Q1.out
              · rw [PA.out A h Q1.out h46, if_pos (.inl hA2)]
            obtain ⟨n1, n2, n3⟩ := NO.out hp
            have E1 := Lib.hid n1; have E2 := Lib.hid n2; have E3 := Lib.hid n3
            have t1 : decide ((A : Int) < 2) = true := decide_eq_true (by omega)
            clear n1 n2 n3 hp h46
            go_wp2
            (try simp only [Exit.inBlock, Exit.then])
            refine bodyPost_ret (v := .tuple #[.agg #[.string (bs []), .string (bs [])], .bool false]) ?_ rfl ⟨by rw [E1.out, E2.out, E3.out], ?_⟩
            · rw [results_cell_tmp rfl]; go_simp; try rfl
            · first | exact B0.out | exact B0.out.drew | exact (B0.out.setCell (by exact Nat.le_refl _) _).setCell (by exact Nat.le_refl _) _ | exact (B0.out.drew.setCell (by exact Nat.le_refl _) _).setCell (by exact Nat.le_refl _) _ | exact ((Below.refl _ w).alloc (Nat.le_refl _) _).drew
          · have t1 : decide ((A : Int) < 2) = false := decide_eq_false (by omega)
            have hA0 : 0 < A := by omega
            have pa := PA.out A hA0 Q1.out h46
            have hlt : A < S.size := by
              rcases Q1.out.2 with ⟨q, _⟩ | ⟨_, q1, _⟩
              · omega
              · exact q1
            have w1 : IntKind.i64.wrap ((S.size : Int) - 1) = (S.size : Int) - 1 := by unfold IntKind.wrap; simp [IntKind.bits, IntKind.signed]; omega
            by_cases hl : A = S.size - 1
            · rw [if_pos (.inr hl)] at pa
              obtain ⟨n1, n2, n3⟩ := NO.out pa
              have E1 := Lib.hid n1; have E2 := Lib.hid n2; have E3 := Lib.hid n3
              have t2 : ((A : Int) == (S.size : Int) - 1) = true := by rw [beq_iff_eq]; omega
              clear n1 n2 n3 pa h46 hl
              go_wp2
              (try simp only [Exit.inBlock, Exit.then])
              refine bodyPost_ret (v := .tuple #[.agg #[.string (bs []), .string (bs [])], .bool false]) ?_ rfl ⟨by rw [E1.out, E2.out, E3.out], ?_⟩
              · rw [results_cell_tmp rfl]; go_simp; try rfl
              · first | exact B0.out | exact B0.out.drew | exact (B0.out.setCell (by exact Nat.le_refl _) _).setCell (by exact Nat.le_refl _) _ | exact (B0.out.drew.setCell (by exact Nat.le_refl _) _).setCell (by exact Nat.le_refl _) _ | exact ((Below.refl _ w).alloc (Nat.le_refl _) _).drew
            · rw [if_neg (by rintro (q | q); exact hA2 q; exact hl q)] at pa
              obtain ⟨n1, n2, n3⟩ := YES.out _ _ pa
              have E1 := Lib.hid n1; have E2 := Lib.hid n2; have E3 := Lib.hid n3
              have t2 : ((A : Int) == (S.size : Int) - 1) = false := by rw [beq_eq_false_iff_ne]; omega
              have x1 := X1.out A
              have x2 := X2.out A
              have i3 : (0 : Int) ≤ (A : Int) := by omega
              have i4 : (A : Int) ≤ (S.size : Int) := by omega
              generalize s.take A = y1 at *
              generalize s.drop A = y2 at *
              clear n1 n2 n3 pa h46 hl
              go_wp2_with fail
              go_region
              all_goals go_wp2
              all_goals (try simp only [Exit.inBlock, Exit.then])
              all_goals
                refine bodyPost_ret (v := .tuple #[.agg #[.string (bs y1), .string (bs y2)], .bool true]) ?_ rfl ⟨by rw [E1.out, E2.out, E3.out], ?_⟩
                · rw [results_cell_tmp rfl]; go_simp; try rfl
                · first | exact B0.out | exact B0.out.drew | exact (B0.out.setCell (by exact Nat.le_refl _) _).setCell (by exact Nat.le_refl _) _ | exact (B0.out.drew.setCell (by exact Nat.le_refl _) _).setCell (by exact Nat.le_refl _) _ | exact ((Below.refl _ w).alloc (Nat.le_refl _) _).drew
        · rw [decide_eq_false h46] at e2
          obtain ⟨n1, n2, n3⟩ := NO.out (PF.out h46)
          have E1 := Lib.hid n1; have E2 := Lib.hid n2; have E3 := Lib.hid n3
          clear n1 n2 n3 h46
          go_wp2
          (try simp only [Exit.inBlock, Exit.then])
          refine bodyPost_ret (v := .tuple #[.agg #[.string (bs []), .string (bs [])], .bool false]) ?_ rfl ⟨by rw [E1.out, E2.out, E3.out], ?_⟩
          · rw [results_cell_tmp rfl]; go_simp; try rfl
          · first | exact B0.out | exact B0.out.drew | exact (B0.out.setCell (by exact Nat.le_refl _) _).setCell (by exact Nat.le_refl _) _ | exact (B0.out.drew.setCell (by exact Nat.le_refl _) _).setCell (by exact Nat.le_refl _) _ | exact ((Below.refl _ w).alloc (Nat.le_refl _) _).drew
end Go.Proofs.YtfgcbdjkimkgpaaGreatDoor
