/-
  What the reference's WordsOf and Split (at newlines) answer. Condition: the string is shorter than 2^32 bytes.
-/
import Derived.Test.YtdencbkepiaigaaDoorRPar
import Derived.Test.YtdencbkepiaigaaDoorLRa
import Derived.Test.YtdencbkepiaigaaDoorLWp
namespace Go.Proofs.YtdencbkepiaigaaDoor
open Go.ChangeShapes Go.WideShapes Go.ChangeAt Go.RowKit

theorem cell_one' (w : World) (x : Value) (t : TypeId) : ∀ j u, [x][j]? = some u → (w.alloc (.cells #[x] t)).cell? ((⟨w.heap.size, 0, none⟩ : Addr).add j) = some u := by
  intro j u hj
  match j, hj with
  | 0, hj => simp at hj; subst hj; simp [Addr.add]
  | (j + 1), hj => simp at hj
/-- a row of strings of the call's own -/
def SO (B : Nat) (v : Value) (z : List Str) (w : World) : Prop := w.ownsRow B 9 1 v z.length (z.map encStr)
theorem SO.snoc {B : Nat} {v : Value} {z : List Str} {x : Str} {w : World} (h : w.ownsRow B 9 1 v (z.length + 1) (z.map encStr ++ [.string (bs x)])) : SO B v (z ++ [x]) w := by
  unfold SO; rw [List.length_append, List.map_append]; exact h

set_option maxHeartbeats 2000000 in
set_option maxRecDepth 100000 in
theorem wordsOf_any (S : ByteArray) (w : World) (hs : S.size ≤ 4294967296) :
    Calls Tryd.prog 41 #[.string S] w fun e w' => ∃ v, e = .returned v ∧ SO w.heap.size v (words S.data.toList) w' ∧ Below w.heap.size w w' := by
  have HF : Hid (∀ k (h : k < S.size), S[k].toNat = (bK S k).toNat) := bK_get S
  have HX : Hid (∀ k, k < S.size → S.extract k (k + 1) = bs [bK S k]) := bK_ext S
  have HD : Hid (∀ k, k < S.size → S.data.toList.drop k = bK S k :: S.data.toList.drop (k + 1)) := drop_bK S
  have HN : Hid (S.data.toList.drop S.size = []) := Lib.hid (by rw [← size_list]; exact List.drop_length)
  obtain ⟨i0, hi, hz0, hz1, hz2⟩ := info_parts infoStr
  have HI := Lib.hid hi; clear hi
  generalize bK S = f at *
  generalize S.data.toList = s at *
  have W0 : Hid (words s = [] ++ wgo [] (s.drop 0)) := rfl
  go_enter Tryd.func41, Tryd.ntmps41
  go_wp2_with fail
  go_loopw [3, 4, 9] (fun o x i wr => ∃ (k : Nat) (out : List Str) (word : Str), k ≤ S.size + 1 ∧ SO w.heap.size o out wr ∧ x = .string (bs word) ∧ i = .int .i64 (k : Int) ∧ (k ≤ S.size → words s = out ++ wgo word (s.drop k)) ∧ (k = S.size + 1 → words s = out) ∧ word.length ≤ k ∧ out.length ≤ k ∧ Below w.heap.size w wr) (fun _ _ i _ => S.size + 1 - (intOf i).toNat)
  case atStart => exact ⟨0, [], [], Nat.zero_le _, World.ownsRow_nil _ _ _ _, rfl, rfl, fun _ => W0.out, fun h => by omega, Nat.le_refl _, Nat.le_refl _, Below.refl _ _⟩
  case round =>
    obtain ⟨k, out, word, hk, qo, rfl, rfl, q1, q2, hw, ho, qb⟩ := hrel
    have QO := Lib.hid qo; have Q1 := Lib.hid q1; have Q2 := Lib.hid q2; have QB := Lib.hid qb; clear qo q1 q2 qb
    by_cases hk1 : k = S.size + 1
    · have E := Lib.hid (Q2.out hk1)
      subst hk1
      have t1 : decide (((S.size + 1 : Nat) : Int) < (S.size : Int) + 1) = false := decide_eq_false (by omega)
      go_wp2
      go_ret
      rw [E.out]
      exact ⟨_, rfl, QO.out, QB.out⟩
    · have hk2 : k ≤ S.size := by omega
      have E := Lib.hid (Q1.out hk2)
      clear Q1 Q2
      have OA : Hid (∀ o, (wr.alloc o).ownsRow w.heap.size 9 1 u3 out.length (out.map encStr)) := fun o => QO.out.alloc o
      have SA : Hid (∀ o, w.heap.size ≤ (wr.alloc o).heap.size) := fun o => by have := QB.out.size; simp; omega
      have LT : Hid (∀ k, u3.ownBlock = some k → w.heap.size ≤ k) := fun k hk => (QO.out.lt k hk).1
      have WA : Hid (∀ o, Below w.heap.size w (wr.alloc o)) := fun o => QB.out.alloc QB.out.size o
      by_cases hlt : k < S.size
      · have hb := HF.out k hlt
        have hx := HX.out k hlt
        have D := Lib.hid (HD.out k hlt)
        have h1 : (bs [f k]).size = 1 := bs_size _
        have h2 : (bs word).size = word.length := bs_size _
        have hr : decide ((k : Int) < (S.size : Int) + 1) = true := decide_eq_true (by omega)
        go_wp2_with fail
        refine (blank_any (f k) _).mono ?_
        rintro e w' ⟨rfl, rfl⟩
        rename World => wr
        cases hc : bl (f k) with
        | false =>
          have HC := Lib.hid hc; clear hc
          go_wp2
          go_roundw
          case rel =>
            refine ⟨k + 1, out, word ++ [f k], by omega, QO.out, by rw [bs_app], by go_num, fun _ => ?_, fun h => by omega, by simp; omega, by omega, QB.out⟩
            rw [E.out, D.out, wgo, HC.out]; rfl
          case measure => simp [intOf]; omega
        | true =>
          have HC := Lib.hid hc; clear hc
          by_cases hw0 : word = []
          · subst hw0
            have hz : bs [] = ByteArray.mk #[] := rfl
            rw [hz]
            go_wp2
            go_roundw
            case rel =>
              refine ⟨k + 1, out, [], by omega, QO.out, rfl, by go_num, fun _ => ?_, fun h => by omega, by simp, by omega, QB.out⟩
              rw [E.out, D.out, wgo_skip HC.out]
            case measure => simp [intOf]; omega
          · have ne := bs_some hw0
            have HW := Lib.hid hw0; clear hw0
            go_wp2_with (at_builtin; go_must (refine wpList_append_own _ rfl (.tmp 32) (.tmp 34) 22 rfl w.heap.size 9 i0 (.string ByteArray.empty) 1 16 Tryd.underlying22 HI.out hz0 hz1 hz2 rfl (by decide) _ _ _ rfl (OA.out _) ⟨wr.heap.size, 0, none⟩ 1 1 [.string (bs word)] rfl rfl (cell_one' _ _ _) (by intro u hu; simp at hu; rcases hu with rfl; rfl) (by unfold maxLen; omega) (by omega) (SA.out _) ?_; intro v4 w4 q1 q2 q3; have O4 := Lib.hid q1; have G4 := Lib.hid q2; clear q1 q2 q3))
            go_roundw
            case rel =>
              refine ⟨k + 1, out ++ [word], [], by omega, SO.snoc O4.out, rfl, by go_num, ?_, ?_, by simp, by simp; omega, (WA.out _).grown G4.out (SA.out _) LT.out⟩
              · intro _; rw [E.out, D.out, wgo_cut HW.out HC.out]; simp
              · intro h; omega
            case measure => simp [intOf]; omega
      · obtain rfl : k = S.size := by omega
        rw [HN.out] at E
        have hr : decide ((S.size : Int) < (S.size : Int) + 1) = true := decide_eq_true (by omega)
        have hr2 : decide ((S.size : Int) < (S.size : Int)) = false := decide_eq_false (by omega)
        by_cases hw0 : word = []
        · subst hw0
          have hz : bs [] = ByteArray.mk #[] := rfl
          rw [hz]
          clear hk hk2 hlt hk1
          go_wp2
          go_roundw
          case rel =>
            refine ⟨S.size + 1, out, [], by omega, QO.out, rfl, by go_num, fun h => by omega, fun _ => ?_, by simp, by omega, QB.out⟩
            rw [E.out]; simp [wgo]
          case measure => simp [intOf]
        · have ne := bs_some hw0
          have HW := Lib.hid hw0; clear hw0 hk hk2 hlt hk1
          go_wp2_with (at_builtin; go_must (refine wpList_append_own _ rfl (.tmp 32) (.tmp 34) 22 rfl w.heap.size 9 i0 (.string ByteArray.empty) 1 16 Tryd.underlying22 HI.out hz0 hz1 hz2 rfl (by decide) _ _ _ rfl (OA.out _) ⟨wr.heap.size, 0, none⟩ 1 1 [.string (bs word)] rfl rfl (cell_one' _ _ _) (by intro u hu; simp at hu; rcases hu with rfl; rfl) (by unfold maxLen; omega) (by omega) (SA.out _) ?_; intro v4 w4 q1 q2 q3; have O4 := Lib.hid q1; have G4 := Lib.hid q2; clear q1 q2 q3))
          go_roundw
          case rel =>
            refine ⟨S.size + 1, out ++ [word], [], by omega, SO.snoc O4.out, rfl, by go_num, ?_, ?_, by simp, by simp; omega, (WA.out _).grown G4.out (SA.out _) LT.out⟩
            · intro h; omega
            · intro _; rw [E.out, wgo_end HW.out]
          case measure => simp [intOf]
end Go.Proofs.YtdencbkepiaigaaDoor
