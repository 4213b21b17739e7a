/-
  What package rule's Print answers. No condition.
-/
import Derived.Test.YtdencbkepiaigaaDoorRJoinW
import Derived.Test.YtdencbkepiaigaaDoorRJo
import Derived.Test.YtdencbkepiaigaaDoorLWd
namespace Go.Proofs.YtdencbkepiaigaaDoor
set_option linter.unusedVariables false
open Go.ChangeShapes Go.WideShapes Go.ChangeAt Go.RowKit

def flatN (n : List Str) : Str := n.flatMap fun x => 32 :: x
/-- the text of a rule -/
def printR (r : Rl) : Str := Lib.join r.1 [32] ++ [32, 58] ++ flatN r.2
theorem bulk_good {l : List Str} (h : l.all good = true) : bulk l ≤ 41 * l.length := by
  induction l with
  | nil => simp [bulk]
  | cons x r ih =>
    rw [List.all_cons, Bool.and_eq_true] at h
    have := good_len h.1
    have := ih h.2
    rw [bulk_cons, List.length_cons]
    omega
theorem flatN_take {n : List Str} {k : Nat} (h : k < n.length) : flatN (n.take (k + 1)) = flatN (n.take k) ++ 32 :: n.getD k [] := by
  unfold flatN
  rw [List.take_add_one, List.getElem?_eq_getElem h, List.flatMap_append, List.getD, List.getElem?_eq_getElem h]
  simp
theorem flatN_len {n : List Str} (h : n.all good = true) : (flatN n).length ≤ 41 * n.length := by
  induction n with
  | nil => simp [flatN]
  | cons x r ih =>
    rw [List.all_cons, Bool.and_eq_true] at h
    have h1 := good_len h.1
    have h2 := ih h.2
    have e : flatN (x :: r) = (32 :: x) ++ flatN r := by simp [flatN]
    rw [e, List.length_append, List.length_cons, List.length_cons]
    omega
def PrintPost (r : Rl) (w : World) (e : Ending) (w' : World) : Prop :=
  ((chkR r = 0 ∧ e = .returned (.tuple #[.string (bs (printR r)), .int .i64 0])) ∨ (chkR r ≠ 0 ∧ e = .returned (.tuple #[.string (ByteArray.mk #[]), .int .i64 (chkR r)]))) ∧ Below w.heap.size w w'
set_option maxHeartbeats 4000000 in
set_option maxRecDepth 100000 in
theorem print_any {w : World} {vt vn : Value} {t n : List Str} (ht : SIn w vt t) (hn : SIn w vn n) :
    Calls Tryd.prog 7 #[.agg #[vt, vn]] w (PrintPost (t, n) w) := by
  have BA : Hid (Below w.heap.size w (w.alloc (.cells #[vt, vn] 24))) := (Below.refl _ w).alloc (Nat.le_refl _) _
  have HT : Hid (SIn (w.alloc (.cells #[vt, vn] 24)) vt t) := ht.later BA.out
  have HU : Hid (SIn (w.alloc (.cells #[vt, vn] 24)) vn n) := hn.later BA.out
  have ST : Hid (StayR w.heap.size vt vn (w.alloc (.cells #[vt, vn] 24))) := stayR_new _ _ _
  have bn := hn.bound
  obtain ⟨at', ct, rfl⟩ := ht.shape
  obtain ⟨an, cn, rfl⟩ := hn.shape
  clear ht hn
  unfold PrintPost
  by_cases hck : chkR (t, n) = 0
  · obtain ⟨h20, h21, hpos, hg1, hg2⟩ := chk_ok hck
    simp only [] at h20 h21 hpos hg1 hg2
    have BT : bulk t ≤ 820 := by have := bulk_good hg1; omega
    have JL : (Lib.join t [32]).length ≤ 820 := by have := join_len t; omega
    have FL : Hid (∀ k, (flatN (n.take k)).length ≤ 820) := fun k => by
      have hg : (n.take k).all good = true := by
        rw [List.all_eq_true] at hg2 ⊢
        exact fun x hx => hg2 x (List.mem_of_mem_take hx)
      have := flatN_len hg
      have h2 : (n.take k).length ≤ 20 := by rw [List.length_take]; omega
      show _ ≤ _
      omega
    have GL : Hid (∀ k, k < n.length → (n.getD k []).length ≤ 40) := fun k hk => (good_len (List.all_eq_true.1 hg2 _ (getD_mem hk))).2
    have FT : Hid (∀ k, k < n.length → flatN (n.take (k + 1)) = flatN (n.take k) ++ 32 :: n.getD k []) := fun k hk => flatN_take hk
    have FE : Hid (flatN (n.take n.length) = flatN n) := Lib.hid (by rw [List.take_length])
    have PR : Hid (printR (t, n) = Lib.join t [32] ++ [32, 58] ++ flatN n) := rfl
    have BTH := Lib.hid BT
    have HCK := Lib.hid hck
    clear hg1 hg2 BT
    generalize printR (t, n) = P at *
    generalize eLN : n.length = ln at *
    clear eLN
    go_enter Tryd.func7, Tryd.ntmps7
    go_wp2_with fail
    refine (rcheck_any HT.out HU.out).mono ?_
    rintro e w1 ⟨rfl, b1⟩
    rw [hck]
    clear hck
    have W1 := Lib.hid (BA.out.trans (b1.mono (by simp)))
    have S1 := Lib.hid (ST.out.later b1)
    have T1 := Lib.hid (HT.out.later b1)
    have U1 := Lib.hid (HU.out.later b1)
    clear b1
    have K1 : Hid (∀ W, Below w1.heap.size w1 W → W.cell? ⟨w.heap.size, 0, none⟩ = some (.slice at' t.length ct) ∧ W.cell? ⟨w.heap.size, 1, none⟩ = some (.slice an ln cn)) := fun W hW => (S1.out.later hW).cells
    have E1 : Hid (∀ W, Below w1.heap.size w1 W → ∀ k, k < ln → ∃ b off, an = some ⟨b, off, none⟩ ∧ W.cell? ⟨b, off + k, none⟩ = some (.string (bs (n.getD k [])))) := fun W hW k hk => by
      obtain ⟨a9, c9, e9, _, _, _, h9⟩ := U1.out.later hW
      cases e9
      rcases h9 with rfl | ⟨b, off, ha, _, hc⟩
      · exact absurd hk (Nat.not_lt_zero _)
      · exact ⟨b, off, ha, hc k hk⟩
    have D0 := Lib.hid (bd_new w1)
    have B0 : Hid (Below w1.heap.size w1 (w1.alloc (.cells #[.pointer none, .slice none 0 0] 54))) := (Below.refl _ _).alloc (Nat.le_refl _) _
    obtain ⟨k0, k1⟩ := K1.out _ B0.out
    go_wp2_with fail
    refine (joinS_any (T1.out.later B0.out) (by have := BTH.out; omega)).mono ?_
    rintro e w3 ⟨rfl, b3⟩
    have D3 := Lib.hid (D0.out.later b3)
    have B3 := Lib.hid (B0.out.trans (b3.mono (by simp)))
    clear b3 k0 k1
    go_wp2_with fail
    refine (wStr w1.heap.size w1.heap.size [] (Lib.join t [32]) w3 D3.out (by simp only [List.length_nil]; omega) B3.out.size).mono ?_
    rintro e w4 ⟨⟨r4, rfl⟩, d4, b4⟩
    have D4 := Lib.hid d4
    have B4 := Lib.hid (B3.out.trans b4)
    clear d4 b4
    go_wp2_with fail
    refine (wStr w1.heap.size w1.heap.size ([] ++ Lib.join t [32]) [32, 58] w4 D4.out (by simp; omega) B4.out.size).mono ?_
    rintro e w5 ⟨⟨r5, rfl⟩, d5, b5⟩
    have D5 : Hid (Bd w1.heap.size w1.heap.size (Lib.join t [32] ++ [32, 58] ++ flatN (n.take 0)) w5) := Lib.hid (by
      have e : Lib.join t [32] ++ [32, 58] ++ flatN (n.take 0) = [] ++ Lib.join t [32] ++ [32, 58] := by simp [flatN]
      rw [e]; exact d5)
    have B5 := Lib.hid (B4.out.trans b5)
    clear d5 b5
    obtain ⟨k0, k1⟩ := K1.out _ B5.out
    generalize Lib.join t [32] = J at *
    go_wp2_with fail
    go_loopw [21] (fun i wr => ∃ k : Nat, k ≤ ln ∧ i = .int .i64 (k : Int) ∧ Bd w1.heap.size w1.heap.size (J ++ [32, 58] ++ flatN (n.take k)) wr ∧ Below w1.heap.size w1 wr) (fun i _ => ln - (intOf i).toNat)
    case atStart => exact ⟨0, Nat.zero_le _, rfl, D5.out, B5.out⟩
    case round =>
      obtain ⟨k, hk, rfl, qd, qb⟩ := hrel
      have QD := Lib.hid qd; have QB := Lib.hid qb; clear qd qb
      by_cases hkl : k < ln
      · obtain ⟨b, off, rfl, c0⟩ := E1.out wr QB.out k hkl
        have FK := Lib.hid (FT.out k hkl)
        have FLk := FL.out k
        have GK := GL.out k hkl
        generalize n.getD k [] = x at *
        generalize flatN (n.take k) = y at *
        go_wp2_with fail
        refine (wByte w1.heap.size w1.heap.size _ 32 32 rfl wr QD.out (by simp; omega) QB.out.size).mono ?_
        rintro e w6 ⟨rfl, d6, b6⟩
        have D6 := Lib.hid d6
        have B6 := Lib.hid (QB.out.trans b6)
        clear d6 b6
        go_wp2_with fail
        refine (wStr w1.heap.size w1.heap.size _ x w6 D6.out (by simp; omega) B6.out.size).mono ?_
        rintro e w7 ⟨⟨r7, rfl⟩, d7, b7⟩
        have D7 := Lib.hid d7
        have B7 := Lib.hid (B6.out.trans b7)
        clear d7 b7
        go_wp2
        go_roundw
        case rel =>
          refine ⟨k + 1, by omega, by go_num, ?_, B7.out⟩
          rw [FK.out]
          have e : J ++ [32, 58] ++ (y ++ 32 :: x) = J ++ [32, 58] ++ y ++ [32] ++ x := by simp
          rw [e]
          exact D7.out
        case measure => simp [intOf]; omega
      · obtain rfl : k = ln := by omega
        rw [FE.out, ← PR.out] at QD
        have WW := Lib.hid (W1.out.trans (QB.out.mono W1.out.size))
        go_wp2_with fail
        refine (bStr w1.heap.size w1.heap.size P wr QD.out QB.out.size).mono ?_
        rintro e w8 ⟨rfl, b8⟩
        have B8 := Lib.hid (WW.out.trans (b8.mono W1.out.size))
        clear b8
        go_wp2
        go_ret2
        exact ⟨.inl ⟨HCK.out, rfl⟩, B8.out⟩
  · have hne : (chkR (t, n) != 0) = true := by rw [bne_iff_ne]; exact hck
    have HCK := Lib.hid hck
    clear hck
    generalize t.length = lt at *
    generalize n.length = ln at *
    go_enter Tryd.func7, Tryd.ntmps7
    go_wp2_with fail
    refine (rcheck_any HT.out HU.out).mono ?_
    rintro e w1 ⟨rfl, b1⟩
    have W1 := Lib.hid (BA.out.trans (b1.mono (by simp)))
    clear b1
    go_wp2
    go_ret2
    exact ⟨.inr ⟨HCK.out, rfl⟩, W1.out⟩
end Go.Proofs.YtdencbkepiaigaaDoor
