/-
  What the reference's Split answers at newlines: the text cut at each newline. Condition: the string is shorter than 2^32 bytes.
-/
import Derived.Test.YtfgcbdjkimkgpaaGreatDoorLRb
namespace Go.Proofs.YtfgcbdjkimkgpaaGreatDoor
set_option maxRecDepth 100000
open Go.ChangeShapes Go.WideShapes Go.ChangeAt Go.RowKit

theorem glue_cut (x r : Str) : glue x (cutNL (10 :: r)) = [x] ++ glue [] (cutNL r) := by
  rw [cutNL, if_pos rfl, glue_nil (cutNL_ne r)]; simp [glue]
theorem glue_one (x r : Str) (c : UInt8) (h : c ≠ 10) : glue x (cutNL (c :: r)) = glue (x ++ [c]) (cutNL r) := by
  rw [cutNL, if_neg h]
  have := cutNL_ne r
  cases e : cutNL r with
  | nil => exact absurd e this
  | cons y t => simp [glue]
theorem eq10 (c : UInt8) : ((c.toNat : Int) == 10) = decide (c = 10) := by
  rw [Bool.eq_iff_iff, beq_iff_eq, decide_eq_true_iff]
  exact ⟨fun h => UInt8.toNat_inj.1 (by show c.toNat = 10; omega), fun h => by rw [h]; rfl⟩
set_option maxHeartbeats 2000000 in
set_option maxRecDepth 100000 in
theorem splitNL_any (S : ByteArray) (w : World) (hs : S.size ≤ 4294967296) :
    Calls Tryz.prog 79 #[.string S, .int .u8 10] w fun e w' => ∃ v, e = .returned v ∧ SO w.heap.size v (cutNL S.data.toList) w' ∧ Below w.heap.size w w' := by
  have HF : Hid (∀ k (h : k < S.size), S[k].toNat = (bK S k).toNat) := bK_get S
  have HX : Hid (∀ k, k < S.size → S.extract k (k + 1) = bs [bK S k]) := bK_ext S
  have HD : Hid (∀ k, k < S.size → S.data.toList.drop k = bK S k :: S.data.toList.drop (k + 1)) := drop_bK S
  have HN : Hid (S.data.toList.drop S.size = []) := Lib.hid (by rw [← size_list]; exact List.drop_length)
  obtain ⟨i0, hi, hz0, hz1, hz2⟩ := info_parts infoStr
  have HI := Lib.hid hi; clear hi
  generalize bK S = f at *
  generalize S.data.toList = s at *
  have G0 : Hid (cutNL s = [] ++ glue [] (cutNL (s.drop 0))) := Lib.hid (by rw [List.drop_zero, glue_nil (cutNL_ne s)]; rfl)
  have O0 : Hid (SO w.heap.size (.slice (some ⟨w.heap.size, 0, none⟩) 1 1) ([] ++ [[]]) (w.alloc (.cells #[.string (ByteArray.mk #[])] 9))) := World.ownsRow_lit w #[.string (ByteArray.mk #[])] 1 (Nat.le_refl _) (by decide) rfl
  have B0 : Hid (∀ o, Below w.heap.size w (w.alloc o)) := fun o => (Below.refl _ w).alloc (Nat.le_refl _) o
  go_enter Tryz.func79, Tryz.ntmps79
  go_wp2_with fail
  go_loopw [5, 10] (fun o i wr => ∃ (k : Nat) (dl : List Str) (x : Str), k ≤ S.size ∧ SO w.heap.size o (dl ++ [x]) wr ∧ i = .int .i64 (k : Int) ∧ cutNL s = dl ++ glue x (cutNL (s.drop k)) ∧ x.length ≤ k ∧ dl.length ≤ k ∧ Below w.heap.size w wr) (fun _ i _ => S.size - (intOf i).toNat)
  case atStart => exact ⟨0, [], [], Nat.zero_le _, O0.out, rfl, G0.out, Nat.le_refl _, Nat.le_refl _, B0.out _⟩
  case round =>
    obtain ⟨k, dl, x, hk, qo, rfl, q1, hx0, hd0, qb⟩ := hrel
    have QO := Lib.hid qo; have Q1 := Lib.hid q1; have QB := Lib.hid qb; clear q1 qb
    by_cases hlt : k < S.size
    · have hb := HF.out k hlt
      have hx := HX.out k hlt
      have D := Lib.hid (HD.out k hlt)
      have he := eq10 (f k)
      have h1 : (bs [f k]).size = 1 := bs_size _
      have h2 : (bs x).size ≤ 4294967296 := by rw [bs_size]; omega
      by_cases hc : f k = 10
      · rw [decide_eq_true hc] at he
        have HC := Lib.hid hc; clear hc
        have OA : Hid (∀ o, (wr.alloc o).ownsRow w.heap.size 9 1 u5 (dl ++ [x]).length ((dl ++ [x]).map encStr)) := fun o => QO.out.alloc o
        have SA : Hid (∀ o, w.heap.size ≤ (wr.alloc o).heap.size) := fun o => by have := QB.out.size; simp; omega
        have LT : Hid (∀ k, u5.ownBlock = some k → w.heap.size ≤ k) := fun k hk => (QO.out.lt k hk).1
        have WA : Hid (∀ o, Below w.heap.size w (wr.alloc o)) := fun o => QB.out.alloc QB.out.size o
        have hl : (dl ++ [x]).length = dl.length + 1 := by simp
        have EN : Hid (bs [] = ByteArray.mk #[]) := rfl
        have HLn := Lib.hid hl
        clear qo hl
        go_wp2_with (at_builtin; go_must (refine wpList_append_own _ rfl (.tmp 18) (.tmp 19) 27 rfl w.heap.size 9 i0 (.string ByteArray.empty) 1 16 Tryz.underlying27 HI.out hz0 hz1 hz2 rfl (by decide) _ _ _ rfl (OA.out _) ⟨wr.heap.size, 0, none⟩ 1 1 [.string (ByteArray.mk #[])] rfl rfl (cell_one' _ _ _) (by intro u hu; simp at hu; rcases hu with rfl; rfl) (by unfold maxLen; have := HLn.out; omega) (by have := HLn.out; omega) (SA.out _) ?_; intro v4 w4 q1 q2 q3; have O4 := Lib.hid q1; have G4 := Lib.hid q2; clear q1 q2 q3))
        go_roundw
        case rel =>
          refine ⟨k + 1, dl ++ [x], [], by omega, SO.snoc (by rw [EN.out]; exact O4.out), by go_num, ?_, by simp, by simp; omega, (WA.out _).grown G4.out (SA.out _) LT.out⟩
          rw [Q1.out, D.out, HC.out, glue_cut]; simp
        case measure => simp [intOf]; omega
      · rw [decide_eq_false hc] at he
        have HC := Lib.hid hc; clear hc
        obtain ⟨g, cap, rfl, hg, c1, f1, st⟩ := qo.last
        have ST := Lib.hid st; have GB := Lib.hid hg; clear st hg qo
        obtain ⟨n, hn⟩ : ∃ n, n = dl.length + 1 := ⟨_, rfl⟩
        have n1 : (n : Int) - 1 = (dl.length : Int) := by omega
        have n2 : dl.length < n := by omega
        have n3 : n ≤ 4294967297 := by omega
        have ST2 : Hid (∀ y, SO w.heap.size (.slice (some ⟨g, 0, none⟩) n cap) (dl ++ [y]) (wr.setCell ⟨g, dl.length, none⟩ (.string (bs y)))) := fun y => by rw [hn]; exact ST.out y
        have PB : Hid (∀ u, Below w.heap.size w (wr.setCell ⟨g, dl.length, none⟩ u)) := fun u => QB.out.setCell GB.out u
        rw [← hn]
        clear hn ST QO
        generalize hm : dl.length = m at *
        have HM := Lib.hid hm; clear hm
        go_wp2_with fail
        go_region
        go_wp2
        go_roundw
        case rel =>
          refine ⟨k + 1, dl, x ++ [f k], by omega, ?_, by go_num, ?_, by simp; omega, by rw [HM.out]; omega, Below.drew (PB.out _)⟩
          · have := ST2.out (x ++ [f k])
            rw [← bs_app] at this
            exact World.ownsRow.drew this
          · rw [Q1.out, D.out, glue_one x _ _ HC.out]
        case measure => simp [intOf]; omega
    · obtain rfl : k = S.size := by omega
      have E : Hid (cutNL s = dl ++ [x]) := Lib.hid (by rw [Q1.out, HN.out]; simp [cutNL, glue])
      clear qo
      go_wp2
      go_ret
      rw [E.out]
      exact ⟨_, rfl, QO.out, QB.out⟩
end Go.Proofs.YtfgcbdjkimkgpaaGreatDoor
