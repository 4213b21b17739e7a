/-
  What package line's joinContinued answers. Condition: the lines have together at most 2^40 bytes.
-/
import Derived.Test.YtnfjcclblggbiaaDoorLUn
namespace Go.Proofs.YtnfjcclblggbiaaDoor
open Go.ChangeShapes Go.WideShapes Go.ChangeAt Go.RowKit

/-- what is left to be joined behind k lines -/
def restOf (L : List Str) (k : Nat) : Str × Nat := if k = 0 then joinH L else joinT (L.drop k)
def cutS (x : Str) : Str := if ends92 x then x.dropLast else x
theorem cutS_le (x : Str) : (cutS x).length ≤ x.length := by unfold cutS; split <;> simp
theorem rest_first {L : List Str} (h : 0 < L.length) : restOf L 0 = if ends92 (L.getD 0 []) then (cutS (L.getD 0 []) ++ (restOf L 1).1, 1 + (restOf L 1).2) else (cutS (L.getD 0 []), 1) := by
  cases L with
  | nil => simp at h
  | cons x r =>
    simp only [restOf, if_true, joinH, List.getD_cons_zero, cutS, Nat.one_ne_zero, if_false, List.drop_succ_cons, List.drop_zero]
    split <;> simp [Nat.add_comm]
theorem rest_next {L : List Str} {k : Nat} (h : k < L.length) (h0 : k ≠ 0) : restOf L k = if ends92 (triml (L.getD k [])) then ([32] ++ cutS (triml (L.getD k [])) ++ (restOf L (k + 1)).1, 1 + (restOf L (k + 1)).2) else ([32] ++ cutS (triml (L.getD k [])), 1) := by
  have e : L.getD k [] = L[k] := by rw [List.getD, List.getElem?_eq_getElem h]; rfl
  unfold restOf
  rw [if_neg h0, if_neg (Nat.succ_ne_zero k), List.drop_eq_getElem_cons h, joinT, e]
  unfold cutS
  split <;> simp [Nat.add_comm]
theorem rest_end (L : List Str) (h : 0 < L.length) : restOf L L.length = ([], 0) := by
  unfold restOf
  rw [if_neg (by omega), List.drop_length]; rfl
theorem getD_mem {z : List Str} {k : Nat} (h : k < z.length) : z.getD k [] ∈ z := by
  rw [List.getD, List.getElem?_eq_getElem h]; exact List.getElem_mem h
theorem bulk_mem {L : List Str} {x : Str} (h : x ∈ L) : x.length ≤ bulk L := by
  induction L with
  | nil => simp at h
  | cons y r ih =>
    have e : bulk (y :: r) = y.length + 1 + bulk r := by simp [bulk]
    rcases List.mem_cons.1 h with rfl | h
    · omega
    · have := ih h; omega

theorem cutS_any (x : Str) (w : World) (hx : x.length ≤ 9223372036854775807) : Calls Tryd.prog 59 #[.string (bs x), .string (ByteArray.mk #[92])] w fun e w' => e = .returned (.tuple #[.string (bs (cutS x)), .bool (ends92 x)]) ∧ w' = w := cut_any x w hx

set_option maxHeartbeats 2000000 in
theorem joinC_any {w : World} {v : Value} {L : List Str} (h : SIn w v L) (hb : bulk L ≤ 1099511627776) :
    Calls Tryd.prog 26 #[v] w fun e w' => e = .returned (.tuple #[.string (bs (joinH L).1), .int .i64 ((joinH L).2 : Int)]) ∧ Below w.heap.size w w' := by
  have hn := h.bound
  have NB := Lib.hid (bd_new w)
  have BA : Hid (∀ o, Below w.heap.size w (w.alloc o)) := fun o => (Below.refl _ w).alloc (Nat.le_refl _) o
  have AS : Hid (∀ o, w.heap.size ≤ (w.alloc o).heap.size) := fun o => by simp
  rcases h.open with ⟨hz, a, cap, rfl⟩ | ⟨hpos, b, off, cap, rfl, hcap, hlt, hc⟩
  · clear h hn
    subst hz
    go_enter Tryd.func26, Tryd.ntmps26
    go_wp2_with fail
    refine wp_loop_rounds 1 ?_
    repeat any_goals (rw [rounds_succ]; go_wp2_with fail)
    refine (bStr _ _ [] _ NB.out (AS.out _)).mono ?_
    rintro e w' ⟨rfl, q⟩
    have B := Lib.hid ((BA.out _).trans q); clear q
    go_wp2
    go_ret2
    exact ⟨rfl, B.out⟩
  · have HC : Hid (∀ W, Below w.heap.size w W → ∀ k, k < L.length → W.cell? ⟨b, off + k, none⟩ = some (.string (bs (L.getD k [])))) := fun W hW k hk => cell_later hW (hc k hk)
    have HX : Hid (∀ k, k < L.length → (L.getD k []).length ≤ bulk L) := fun k hk => bulk_mem (getD_mem hk)
    have HJ : Hid ((joinH L).1.length ≤ bulk L) := joinH_len L
    have R0 := Lib.hid (rest_first hpos)
    have RN : Hid (∀ k, k < L.length → k ≠ 0 → _) := fun k hk h0 => rest_next (L := L) (k := k) hk h0
    have RE := Lib.hid (rest_end L hpos)
    have RS : Hid (restOf L 0 = joinH L) := rfl
    clear h hc hlt
    generalize hLn : L.length = n at *
    clear hLn
    go_enter Tryd.func26, Tryd.ntmps26
    go_wp2_with fail
    go_loopw [11] (fun i wr => ∃ (k : Nat) (out : Str), k ≤ n ∧ i = .int .i64 (k : Int) ∧ Bd w.heap.size w.heap.size out wr ∧ Below w.heap.size w wr ∧ (k = 0 → out = []) ∧ joinH L = (out ++ (restOf L k).1, k + (restOf L k).2)) (fun i _ => n - (intOf i).toNat)
    case atStart => exact ⟨0, [], Nat.zero_le _, rfl, NB.out, BA.out _, fun _ => rfl, by rw [RS.out]; simp⟩
    case round =>
      obtain ⟨k, out, hk, rfl, qB, qW, q0, qj⟩ := hrel
      have QB := Lib.hid qB; have QW := Lib.hid qW; have Q0 := Lib.hid q0; have QJ := Lib.hid qj; clear qB qW q0 qj
      by_cases hk2 : k < n
      · obtain ⟨x, hx⟩ : ∃ x, L.getD k [] = x := ⟨_, rfl⟩
        have c1 := HC.out wr QW.out k hk2
        have hxl := HX.out k hk2
        have RNk := Lib.hid (RN.out k hk2)
        rw [hx] at c1 hxl RNk
        by_cases h0 : k = 0
        · subst h0
          have R1 := R0
          rw [hx] at R1
          have HX0 := Lib.hid hx; clear hx
          rw [Nat.add_zero] at c1
          have e0 := Q0.out rfl
          subst e0
          have QS : Hid (∀ y, y = cutS x → _) := fun y hy => wStr w.heap.size w.heap.size [] y wr QB.out (by have := cutS_le x; rw [hy]; simp; omega) QW.out.size
          go_wp2_with fail
          refine (cutS_any x _ (by omega)).mono ?_
          rintro e w' ⟨rfl, rfl⟩
          go_wp2_with fail
          refine (QS.out _ rfl).mono ?_
          rintro e w1 ⟨⟨r, rfl⟩, q1, q2⟩
          have Q1 := Lib.hid q1; have Q2 := Lib.hid (QW.out.trans q2); clear q1 q2
          cases hd : ends92 x with
          | true =>
            have HD := Lib.hid hd; clear hd
            go_wp2
            go_roundw
            case rel =>
              refine ⟨1, [] ++ cutS x, by omega, rfl, Q1.out, Q2.out, fun h => absurd h (Nat.succ_ne_zero _), ?_⟩
              rw [← RS.out, R1.out, HD.out]
              simp
            case measure => simp [intOf]; omega
          | false =>
            have HD := Lib.hid hd; clear hd
            go_wp2_with fail
            refine (bStr _ _ _ _ Q1.out Q2.out.size).mono ?_
            rintro e w2 ⟨rfl, q⟩
            have B := Lib.hid (Q2.out.trans q); clear q
            go_wp2
            go_ret2
            refine ⟨?_, B.out⟩
            rw [← RS.out, R1.out, HD.out]
            rfl
        · have d0 : (0 : Int) < (k : Int) := by omega
          have R1 := Lib.hid (RNk.out h0)
          have HX0 := Lib.hid hx; clear hx RNk
          have hol : out.length ≤ bulk L := by have h1 := HJ.out; rw [QJ.out] at h1; simp at h1; omega
          have hxt := triml_le x
          have hct := cutS_le (triml x)
          go_wp2_with fail
          refine (wByte _ _ out 32 32 rfl _ QB.out (by omega) QW.out.size).mono ?_
          rintro e w1 ⟨rfl, q1, q2⟩
          have Q1 := Lib.hid q1; have Q2 := Lib.hid (QW.out.trans q2); clear q1 q2
          go_wp2_with fail
          refine (trimL_any x w1).mono ?_
          rintro e w2 ⟨rfl, q⟩
          have Q3 := Lib.hid (Q1.out.later q); have Q4 := Lib.hid (Q2.out.trans (q.mono Q2.out.size)); clear q
          go_wp2_with fail
          refine (cutS_any (triml x) w2 (by omega)).mono ?_
          rintro e w3 ⟨rfl, rfl⟩
          go_wp2_with fail
          refine (wStr _ _ (out ++ [32]) (cutS (triml x)) _ Q3.out (by simp; omega) Q4.out.size).mono ?_
          rintro e w4 ⟨⟨r, rfl⟩, q1, q2⟩
          have Q5 := Lib.hid q1; have Q6 := Lib.hid (Q4.out.trans q2); clear q1 q2
          cases hd : ends92 (triml x) with
          | true =>
            have HD := Lib.hid hd; clear hd
            go_wp2
            go_roundw
            case rel =>
              refine ⟨k + 1, out ++ [32] ++ cutS (triml x), by omega, by go_num, Q5.out, Q6.out, fun h => absurd h (Nat.succ_ne_zero _), ?_⟩
              rw [QJ.out, R1.out, HD.out]
              simp [Nat.add_assoc]
            case measure => simp [intOf]; omega
          | false =>
            have HD := Lib.hid hd; clear hd
            go_wp2_with fail
            refine (bStr _ _ _ _ Q5.out Q6.out.size).mono ?_
            rintro e w5 ⟨rfl, q⟩
            have B := Lib.hid (Q6.out.trans q); clear q
            go_wp2
            go_ret2
            refine ⟨?_, B.out⟩
            rw [QJ.out, R1.out, HD.out]
            simp
      · obtain rfl : k = n := by omega
        go_wp2_with fail
        refine (bStr _ _ out _ QB.out QW.out.size).mono ?_
        rintro e w' ⟨rfl, q⟩
        have B := Lib.hid (QW.out.trans q); clear q
        go_wp2
        go_ret2
        refine ⟨?_, B.out⟩
        rw [QJ.out, RE.out]
        simp
end Go.Proofs.YtnfjcclblggbiaaDoor
