/-
  What the reference's Split answers at colons: the text cut at each colon. Condition: the string is shorter than 2^32 bytes.
-/
import Derived.Test.YtfgcbdjkimkgpaaGreatDoorRFt
namespace Go.Proofs.YtfgcbdjkimkgpaaGreatDoor
set_option maxRecDepth 100000
open Go.ChangeShapes Go.WideShapes Go.ChangeAt Go.RowKit

/-- cut at each colon -/
def cutC : Str → List Str
  | [] => [[]]
  | c :: r => if c = 58 then [] :: cutC r else match cutC r with
    | [] => [[c]]
    | x :: t => (c :: x) :: t
theorem cutC_ne (s : Str) : cutC s ≠ [] := by
  cases s with
  | nil => simp [cutC]
  | cons c r => unfold cutC; split
                · simp
                · split <;> simp
theorem cutC_none : ∀ {s : Str}, colon s = none → cutC s = [s]
  | [], _ => rfl
  | c :: r, h => by
    unfold colon at h
    by_cases hc : c = 58
    · rw [if_pos hc] at h; cases h
    · rw [if_neg hc] at h
      cases hr : colon r with
      | some p => rw [hr] at h; cases h
      | none => rw [cutC, if_neg hc, cutC_none hr]
theorem cutC_some : ∀ {s : Str} {p : Str × Str}, colon s = some p → ∃ y t, cutC s = p.1 :: y :: t
  | [], p, h => by simp [colon] at h
  | c :: r, p, h => by
    unfold colon at h
    by_cases hc : c = 58
    · rw [if_pos hc] at h
      cases h
      rw [cutC, if_pos hc]
      cases e : cutC r with
      | nil => exact absurd e (cutC_ne r)
      | cons y t => exact ⟨y, t, rfl⟩
    · rw [if_neg hc] at h
      cases hr : colon r with
      | none => rw [hr] at h; cases h
      | some q =>
        rw [hr] at h
        cases h
        obtain ⟨y, t, e⟩ := cutC_some hr
        rw [cutC, if_neg hc, e]
        exact ⟨y, t, rfl⟩
/-- x before the first of the lines -/
def glue (x : Str) : List Str → List Str
  | [] => [x]
  | y :: t => (x ++ y) :: t
theorem glue_nil {L : List Str} (h : L ≠ []) : glue [] L = L := by
  cases L with
  | nil => exact absurd rfl h
  | cons y t => rfl
theorem cutglue (x r : Str) : glue x (cutC (58 :: r)) = [x] ++ glue [] (cutC r) := by
  rw [cutC, if_pos rfl, glue_nil (cutC_ne r)]; simp [glue]
theorem oneglue (x r : Str) (c : UInt8) (h : c ≠ 58) : glue x (cutC (c :: r)) = glue (x ++ [c]) (cutC r) := by
  rw [cutC, if_neg h]
  have := cutC_ne r
  cases e : cutC r with
  | nil => exact absurd e this
  | cons y t => simp [glue]
theorem eq58 (c : UInt8) : ((c.toNat : Int) == 58) = decide (c = 58) := by
  rw [Bool.eq_iff_iff, beq_iff_eq, decide_eq_true_iff]
  exact ⟨fun h => UInt8.toNat_inj.1 (by show c.toNat = 58; omega), fun h => by rw [h]; rfl⟩
theorem SO.last {B : Nat} {v : Value} {dl : List Str} {x : Str} {w : World} (h : SO B v (dl ++ [x]) w) : ∃ g cap, v = .slice (some ⟨g, 0, none⟩) (dl.length + 1) cap ∧ B ≤ g ∧ w.cell? ⟨g, dl.length, none⟩ = some (.string (bs x)) ∧ w.frozen? ⟨g, dl.length, none⟩ = false ∧
    (∀ y, SO B v (dl ++ [y]) (w.setCell ⟨g, dl.length, none⟩ (.string (bs y)))) := by
  unfold SO at h
  have hl : (dl ++ [x]).length = dl.length + 1 := by simp
  rw [hl] at h
  rcases h.2 with ⟨_, e⟩ | ⟨g, cap, cur, rfl, hb, _⟩
  · cases e
  · refine ⟨g, cap, rfl, hb, ?_, h.frozenAt _, fun y => ?_⟩
    · rw [h.cellAt dl.length (by omega)]
      simp [encStr_bs]
    · have := (h.stored dl.length (.string (bs y))).1
      unfold SO
      rw [List.length_append]
      have e : (dl ++ [y]).map encStr = ((dl ++ [x]).map encStr).set dl.length (.string (bs y)) := by
        rw [List.map_append, List.map_append, List.set_append_right _ _ (by simp)]
        simp [encStr_bs]
      rw [e]
      exact this

set_option maxHeartbeats 2000000 in
set_option maxRecDepth 100000 in
theorem splitC_any (S : ByteArray) (w : World) (hs : S.size ≤ 4294967296) :
    Calls Tryz.prog 79 #[.string S, .int .u8 58] w fun e w' => ∃ v, e = .returned v ∧ SO w.heap.size v (cutC S.data.toList) w' ∧ Below w.heap.size w w' := by
  have HF : Hid (∀ k (h : k < S.size), S[k].toNat = (bK S k).toNat) := bK_get S
  have HX : Hid (∀ k, k < S.size → S.extract k (k + 1) = bs [bK S k]) := bK_ext S
  have HD : Hid (∀ k, k < S.size → S.data.toList.drop k = bK S k :: S.data.toList.drop (k + 1)) := drop_bK S
  have HN : Hid (S.data.toList.drop S.size = []) := Lib.hid (by rw [← size_list]; exact List.drop_length)
  obtain ⟨i0, hi, hz0, hz1, hz2⟩ := info_parts infoStr
  have HI := Lib.hid hi; clear hi
  generalize bK S = f at *
  generalize S.data.toList = s at *
  have G0 : Hid (cutC s = [] ++ glue [] (cutC (s.drop 0))) := Lib.hid (by rw [List.drop_zero, glue_nil (cutC_ne s)]; rfl)
  have O0 : Hid (SO w.heap.size (.slice (some ⟨w.heap.size, 0, none⟩) 1 1) ([] ++ [[]]) (w.alloc (.cells #[.string (ByteArray.mk #[])] 9))) := World.ownsRow_lit w #[.string (ByteArray.mk #[])] 1 (Nat.le_refl _) (by decide) rfl
  have B0 : Hid (∀ o, Below w.heap.size w (w.alloc o)) := fun o => (Below.refl _ w).alloc (Nat.le_refl _) o
  go_enter Tryz.func79, Tryz.ntmps79
  go_wp2_with fail
  go_loopw [5, 10] (fun o i wr => ∃ (k : Nat) (dl : List Str) (x : Str), k ≤ S.size ∧ SO w.heap.size o (dl ++ [x]) wr ∧ i = .int .i64 (k : Int) ∧ cutC s = dl ++ glue x (cutC (s.drop k)) ∧ x.length ≤ k ∧ dl.length ≤ k ∧ Below w.heap.size w wr) (fun _ i _ => S.size - (intOf i).toNat)
  case atStart => exact ⟨0, [], [], Nat.zero_le _, O0.out, rfl, G0.out, Nat.le_refl _, Nat.le_refl _, B0.out _⟩
  case round =>
    obtain ⟨k, dl, x, hk, qo, rfl, q1, hx0, hd0, qb⟩ := hrel
    have QO := Lib.hid qo; have Q1 := Lib.hid q1; have QB := Lib.hid qb; clear q1 qb
    by_cases hlt : k < S.size
    · have hb := HF.out k hlt
      have hx := HX.out k hlt
      have D := Lib.hid (HD.out k hlt)
      have he := eq58 (f k)
      have h1 : (bs [f k]).size = 1 := bs_size _
      have h2 : (bs x).size ≤ 4294967296 := by rw [bs_size]; omega
      by_cases hc : f k = 58
      · rw [decide_eq_true hc] at he
        have HC := Lib.hid hc; clear hc
        have OA : Hid (∀ o, (wr.alloc o).ownsRow w.heap.size 9 1 u5 (dl ++ [x]).length ((dl ++ [x]).map encStr)) := fun o => QO.out.alloc o
        have SA : Hid (∀ o, w.heap.size ≤ (wr.alloc o).heap.size) := fun o => by have := QB.out.size; simp; omega
        have LT : Hid (∀ k, u5.ownBlock = some k → w.heap.size ≤ k) := fun k hk => (QO.out.lt k hk).1
        have WA : Hid (∀ o, Below w.heap.size w (wr.alloc o)) := fun o => QB.out.alloc QB.out.size o
        have hl : (dl ++ [x]).length = dl.length + 1 := by simp
        have EN : Hid (bs [] = ByteArray.mk #[]) := rfl
        have HLn := Lib.hid hl
        clear qo hl
        go_wp2_with (at_builtin; go_must (refine wpList_append_own _ rfl (.tmp 18) (.tmp 19) 27 rfl w.heap.size 9 i0 (.string ByteArray.empty) 1 16 Tryz.underlying27 HI.out hz0 hz1 hz2 rfl (by decide) _ _ _ rfl (OA.out _) ⟨wr.heap.size, 0, none⟩ 1 1 [.string (ByteArray.mk #[])] rfl rfl (cell_one' _ _ _) (by intro u hu; simp at hu; rcases hu with rfl; rfl) (by unfold maxLen; have := HLn.out; omega) (by have := HLn.out; omega) (SA.out _) ?_; intro v4 w4 q1 q2 q3; have O4 := Lib.hid q1; have G4 := Lib.hid q2; clear q1 q2 q3))
        go_roundw
        case rel =>
          refine ⟨k + 1, dl ++ [x], [], by omega, SO.snoc (by rw [EN.out]; exact O4.out), by go_num, ?_, by simp, by simp; omega, (WA.out _).grown G4.out (SA.out _) LT.out⟩
          rw [Q1.out, D.out, HC.out, cutglue]; simp
        case measure => simp [intOf]; omega
      · rw [decide_eq_false hc] at he
        have HC := Lib.hid hc; clear hc
        obtain ⟨g, cap, rfl, hg, c1, f1, st⟩ := qo.last
        have ST := Lib.hid st; have GB := Lib.hid hg; clear st hg qo
        obtain ⟨n, hn⟩ : ∃ n, n = dl.length + 1 := ⟨_, rfl⟩
        have n1 : (n : Int) - 1 = (dl.length : Int) := by omega
        have n2 : dl.length < n := by omega
        have n3 : n ≤ 4294967297 := by omega
        have ST2 : Hid (∀ y, SO w.heap.size (.slice (some ⟨g, 0, none⟩) n cap) (dl ++ [y]) (wr.setCell ⟨g, dl.length, none⟩ (.string (bs y)))) := fun y => by rw [hn]; exact ST.out y
        have PB : Hid (∀ u, Below w.heap.size w (wr.setCell ⟨g, dl.length, none⟩ u)) := fun u => QB.out.setCell GB.out u
        rw [← hn]
        clear hn ST QO
        generalize hm : dl.length = m at *
        have HM := Lib.hid hm; clear hm
        go_wp2_with fail
        go_region
        go_wp2
        go_roundw
        case rel =>
          refine ⟨k + 1, dl, x ++ [f k], by omega, ?_, by go_num, ?_, by simp; omega, by rw [HM.out]; omega, Below.drew (PB.out _)⟩
          · have := ST2.out (x ++ [f k])
            rw [← bs_app] at this
            exact World.ownsRow.drew this
          · rw [Q1.out, D.out, oneglue x _ _ HC.out]
        case measure => simp [intOf]; omega
    · obtain rfl : k = S.size := by omega
      have E : Hid (cutC s = dl ++ [x]) := Lib.hid (by rw [Q1.out, HN.out]; simp [cutC, glue])
      clear qo
      go_wp2
      go_ret
      rw [E.out]
      exact ⟨_, rfl, QO.out, QB.out⟩
end Go.Proofs.YtfgcbdjkimkgpaaGreatDoor
