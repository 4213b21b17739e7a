/-
  The law FileOrder's tests of a line, and the order of definitions in plain words. Condition: a line of at most 2^24 bytes.
-/
import Derived.Test.YtfgcbdjkimkgpaaGreatDoorFAn
namespace Go.Proofs.YtfgcbdjkimkgpaaGreatDoor
set_option maxRecDepth 100000
set_option linter.unusedVariables false
open Go.ChangeShapes Go.WideShapes Go.ChangeAt Go.RowKit

theorem defR_cons (b : UInt8) (r : Str) : (defR (b :: r)).isSome = if b = 61 then true else if b = 58 then false else (defR r).isSome := by
  by_cases h1 : b = 61
  · subst h1; rfl
  · rw [if_neg h1]
    have hc : cutB 61 (b :: r) = match cutB 61 r with | none => none | some p => some (b :: p.1, p.2) := by rw [cutB, if_neg h1]; cases cutB 61 r <;> rfl
    by_cases h2 : b = 58
    · subst h2
      rw [if_pos rfl]
      unfold defR
      rw [hc]
      cases cutB 61 r with
      | none => rfl
      | some p => simp
    · rw [if_neg h2]
      unfold defR
      rw [hc]
      cases cutB 61 r with
      | none => rfl
      | some p =>
        have e : (b :: p.1).contains 58 = p.1.contains 58 := by
          rw [List.contains_cons, show ((58 : UInt8) == b) = false by rw [beq_eq_false_iff_ne]; exact fun e => h2 e.symm, Bool.false_or]
        simp only [e]
        cases p.1.contains 58 <;> rfl
theorem def_idx : ∀ s : Str, (Lib.indexAny s [61, 58] = -1 ∧ (defR s).isSome = false) ∨ ∃ i : Nat, i < s.length ∧ Lib.indexAny s [61, 58] = (i : Int) ∧ (defR s).isSome = decide ((s.getD i 0).toNat = 61)
  | [] => .inl ⟨rfl, rfl⟩
  | b :: r => by
    have h1 : b = 61 ↔ b.toNat = 61 := ⟨fun e => by rw [e]; rfl, fun e => UInt8.toNat_inj.1 e⟩
    have h2 : b = 58 ↔ b.toNat = 58 := ⟨fun e => by rw [e]; rfl, fun e => UInt8.toNat_inj.1 e⟩
    rw [defR_cons, Lib.indexAny, con_e]
    by_cases e1 : b = 61
    · right
      refine ⟨0, by simp, ?_, ?_⟩
      · rw [decide_eq_true (.inl (h1.1 e1)), if_pos rfl]; rfl
      · rw [if_pos e1, List.getD_cons_zero, decide_eq_true (h1.1 e1)]
    · by_cases e2 : b = 58
      · right
        refine ⟨0, by simp, ?_, ?_⟩
        · rw [decide_eq_true (.inr (h2.1 e2)), if_pos rfl]; rfl
        · rw [if_neg e1, if_pos e2, List.getD_cons_zero, decide_eq_false (fun e => e1 (h1.2 e))]
      · rw [decide_eq_false (fun e => e.elim (fun e => e1 (h1.2 e)) (fun e => e2 (h2.2 e))), if_neg (by decide), if_neg e1, if_neg e2]
        rcases def_idx r with ⟨q1, q2⟩ | ⟨i, q1, q2, q3⟩
        · left
          rw [q1]
          exact ⟨rfl, q2⟩
        · right
          refine ⟨i + 1, by simpa using q1, ?_, by rw [List.getD_cons_succ]; exact q3⟩
          rw [q2, if_neg (by rw [beq_iff_eq]; omega)]
          omega
/-! the order of definitions -/
def dq (s : Str) : Bool := (defR s).isSome
theorem defsR_app (a b : List Str) : defsR (a ++ b) = defsR a ++ defsR b := by unfold defsR; rw [List.filterMap_append]
theorem defsR_none {b : List Str} (h : ∀ s ∈ b, dq s = false) : defsR b = [] := by
  induction b with
  | nil => rfl
  | cons s r ih =>
    have h0 := h s (List.mem_cons_self ..)
    unfold defsR
    rw [List.filterMap_cons]
    cases hd : defR s with
    | none => exact ih fun x hx => h x (List.mem_cons_of_mem _ hx)
    | some m => unfold dq at h0; rw [hd] at h0; cases h0
theorem goL_defs {z : List Mc} : ∀ {a b : List Str} {i : Nat} {st : St}, (∀ s ∈ a, dq s = true) → goL z i st (a ++ b) = goL z (i + a.length) st b
  | [], b, i, st, _ => by simp
  | s :: a, b, i, st, h => by
    rw [List.cons_append, goL_skip (h s (List.mem_cons_self ..)), goL_defs fun x hx => h x (List.mem_cons_of_mem _ hx), List.length_cons]
    congr 1; omega
/-- the number aside, goL does not ask where it starts -/
theorem goL_at {z : List Mc} : ∀ {b : List Str} {i j : Nat} {st : St}, (goL z i st b).1 = (goL z j st b).1 ∧ (goL z i st b).2.2 = (goL z j st b).2.2
  | [], i, j, st => ⟨rfl, rfl⟩
  | s :: b, i, j, st => by
    cases hd : defR s with
    | some m => rw [goL_skip (by rw [hd]; rfl), goL_skip (by rw [hd]; rfl)]; exact goL_at
    | none =>
      by_cases hk : (addL z st s).1 = 0
      · rw [goL_step hd hk, goL_step hd hk]; exact goL_at
      · rw [goL_bad hd hk, goL_bad hd hk]; exact ⟨rfl, rfl⟩
theorem goL_tail {z : List Mc} : ∀ {b a : List Str} {i : Nat} {st : St}, (∀ s ∈ a, dq s = true) → (goL z i st (b ++ a)).1 = (goL z i st b).1 ∧ (goL z i st (b ++ a)).2.2 = (goL z i st b).2.2
  | [], a, i, st, h => by
    have := goL_defs (z := z) (b := []) (i := i) (st := st) h
    rw [List.append_nil] at this
    rw [List.nil_append, this]
    exact ⟨rfl, rfl⟩
  | s :: b, a, i, st, h => by
    rw [List.cons_append]
    cases hd : defR s with
    | some m => rw [goL_skip (by rw [hd]; rfl), goL_skip (by rw [hd]; rfl)]; exact goL_tail h
    | none =>
      by_cases hk : (addL z st s).1 = 0
      · rw [goL_step hd hk, goL_step hd hk]; exact goL_tail h
      · rw [goL_bad hd hk, goL_bad hd hk]; exact ⟨rfl, rfl⟩
/-- definitions first, or last: the same file, the same error -/
theorem parseF_order {a b : List Str} (ha : ∀ s ∈ a, dq s = true) (hb : ∀ s ∈ b, dq s = false) : (parseF (a ++ b)).1 = (parseF (b ++ a)).1 ∧ (parseF (a ++ b)).2.2 = (parseF (b ++ a)).2.2 := by
  have d1 : defsR (a ++ b) = defsR a := by rw [defsR_app, defsR_none hb, List.append_nil]
  have d2 : defsR (b ++ a) = defsR a := by rw [defsR_app, defsR_none hb, List.nil_append]
  have g1 : ∀ z, (goL z 0 ([], [], []) (a ++ b)).1 = (goL z 0 ([], [], []) (b ++ a)).1 ∧ (goL z 0 ([], [], []) (a ++ b)).2.2 = (goL z 0 ([], [], []) (b ++ a)).2.2 := fun z => by
    rw [goL_defs ha]
    obtain ⟨t1, t2⟩ := goL_tail (z := z) (b := b) (i := 0) (st := ([], [], [])) ha
    obtain ⟨u1, u2⟩ := goL_at (z := z) (b := b) (i := 0 + a.length) (j := 0) (st := ([], [], []))
    exact ⟨u1.trans t1.symm, u2.trans t2.symm⟩
  have hl : (a ++ b).length = (b ++ a).length := by rw [List.length_append, List.length_append, Nat.add_comm]
  obtain ⟨g1, g2⟩ := g1 (defsR a)
  unfold parseF
  rw [d1, d2, hl, g1, g2]
  by_cases h1 : 200 < (b ++ a).length
  · rw [if_pos h1, if_pos h1]; exact ⟨rfl, rfl⟩
  · rw [if_neg h1, if_neg h1]
    by_cases h2 : flatE (defsR a) ≠ 0
    · rw [if_pos h2, if_pos h2]; exact ⟨rfl, rfl⟩
    · rw [if_neg h2, if_neg h2]
      by_cases h3 : (goL (defsR a) 0 ([], [], []) (b ++ a)).2.2 ≠ 0
      · rw [if_pos h3, if_pos h3]; exact ⟨rfl, rfl⟩
      · rw [if_neg h3, if_neg h3]; exact ⟨rfl, rfl⟩
set_option maxHeartbeats 2000000 in
theorem dq_any (s : Str) (hs : s.length ≤ 16777216) (w : World) :
    Calls Tryz.prog 26 #[.string (bs s)] w fun e w' => e = .returned (.bool (dq s)) ∧ Below w.heap.size w w' := by
  have sz : (bs s).size = s.length := bs_size s
  have AN := Lib.hid (anyE (bs s) (by omega) w)
  have BT : Hid (∀ i, i < s.length → byteAt (bs s) i = (s.getD i 0).toNat) := fun i _ => by show _ = _; unfold byteAt; rw [show (bs s).data.toList = s by simp [bs]]
  have HL : (bs s).data.toList = s := by simp [bs]
  rw [HL] at AN
  have GT : Hid (∀ i (h : i < (bs s).size), ((bs s)[i]'h).toNat = byteAt (bs s) i) := fun i h => byteAt_get _ i h
  unfold dq
  rcases def_idx s with ⟨q1, q2⟩ | ⟨i, q1, q2, q3⟩
  · rw [q1] at AN
    rw [q2]
    clear q1 q2 HL
    go_enter Tryz.func26, Tryz.ntmps26
    go_wp2_with fail
    refine AN.out.mono ?_
    rintro e w1 ⟨rfl, hb⟩
    have HB := Lib.hid hb; clear hb
    go_wp2
    go_ret
    exact ⟨rfl, HB.out⟩
  · rw [q2] at AN
    rw [q3]
    have hi : i < (bs s).size := by omega
    have e1 := GT.out i hi
    rw [BT.out i q1] at e1
    clear q2 q3 HL BT GT
    by_cases hk : (s.getD i 0).toNat = 61
    · rw [decide_eq_true hk]
      have t1 : (((((bs s)[i]'hi).toNat : Nat) : Int) == 61) = true := by rw [e1, hk]; rfl
      clear e1 hk
      go_enter Tryz.func26, Tryz.ntmps26
      go_wp2_with fail
      refine AN.out.mono ?_
      rintro e w1 ⟨rfl, hb⟩
      have HB := Lib.hid hb; clear hb
      go_wp2
      go_ret
      exact ⟨rfl, HB.out⟩
    · rw [decide_eq_false hk]
      have t1 : (((((bs s)[i]'hi).toNat : Nat) : Int) == 61) = false := by rw [e1, beq_eq_false_iff_ne]; omega
      clear e1 hk
      go_enter Tryz.func26, Tryz.ntmps26
      go_wp2_with fail
      refine AN.out.mono ?_
      rintro e w1 ⟨rfl, hb⟩
      have HB := Lib.hid hb; clear hb
      go_wp2
      go_ret
      exact ⟨rfl, HB.out⟩
set_option maxHeartbeats 2000000 in
theorem nq_any (s : Str) (hs : s.length ≤ 16777216) (q : Nat) (w : World) (hq : w.cell? ⟨q, 0, none⟩ = some (.func (.func 26) #[] #[])) :
    Calls Tryz.prog 30 #[.string (bs s), .pointer (some ⟨q, 0, none⟩)] w fun e w' => e = .returned (.bool (!dq s)) ∧ Below w.heap.size w w' := by
  have DQ := Lib.hid (dq_any s hs w)
  generalize dq s = d at *
  go_enter Tryz.func30, Tryz.ntmps30
  go_wp2_with fail
  refine DQ.out.mono ?_
  rintro e w1 ⟨rfl, hb⟩
  have HB := Lib.hid hb; clear hb
  go_wp2
  go_ret
  exact ⟨rfl, HB.out⟩
end Go.Proofs.YtfgcbdjkimkgpaaGreatDoor
