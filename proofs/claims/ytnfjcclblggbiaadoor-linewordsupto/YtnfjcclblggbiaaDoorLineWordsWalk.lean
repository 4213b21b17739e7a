/-
  The law LineWords holds of every string of at most 2^20 bytes: the walk. Condition: that length.
-/
import Derived.Test.YtnfjcclblggbiaaDoorLWd
namespace Go.Proofs.YtnfjcclblggbiaaDoor
open Go.ChangeShapes Go.WideShapes Go.ChangeAt Go.RowKit

theorem word_bytes {x : Str} (h : ∀ c ∈ x, bl c = false) : ∀ j, j < (bs x).size → byteAt (bs x) j ≠ 32 ∧ byteAt (bs x) j ≠ 9 := by
  intro j hj
  rw [bs_size] at hj
  have := h x[j] (List.getElem_mem hj)
  rw [bl_nat] at this
  unfold blR at this
  simp at this
  unfold byteAt
  rw [bs_list, List.getD, List.getElem?_eq_getElem hj]
  exact ⟨this.1, this.2⟩

set_option maxHeartbeats 4000000 in
set_option maxRecDepth 100000 in
theorem walkWords (S : ByteArray) (w : World) (hs : S.size ≤ 1048576) (hm : MX w) :
    Calls Tryd.prog 6 #[.string S] w fun e w' => e = .returned (.bool true) ∧ Below w.heap.size w w' := by
  have HL := Lib.hid (lines_true w hm)
  have HW : Hid (∀ w, Calls Tryd.prog 13 #[.string S] w fun e w' => ∃ v, e = .returned v ∧ SIn w' v (words S.data.toList) ∧ Below w.heap.size w w') := fun w => words_any S w (by omega)
  have HT : Hid (∀ w, Calls Tryd.prog 23 #[.string S, .string (ByteArray.mk #[32, 9])] w fun e w' => e = .returned (.string (bs (triml (trimr S.data.toList)))) ∧ Below w.heap.size w w') := fun w => by
    have := trim_any S.data.toList w (by rw [size_list]; omega)
    rw [bs_of] at this
    exact this
  have WO := Lib.hid (words_ok S.data.toList)
  have WB : Hid (bulk (words S.data.toList) ≤ 1048577) := Nat.le_trans (words_bulk _) (by rw [size_list]; omega)
  have WJ := Lib.hid (words_join (words_ok S.data.toList))
  have TN := Lib.hid (trim_nil S.data.toList)
  have CA : Hid (∀ x ∈ words S.data.toList, ∀ w, Calls Tryd.prog 19 #[.string (bs x), .string (ByteArray.mk #[32, 9])] w fun e w' => e = .returned (.bool false) ∧ Below w.heap.size w w') := fun x hx w =>
    containsAny_none (bs x) (by rw [bs_size]; have := bulk_in hx; have := WB.out; omega) (word_bytes (WO.out x hx).2) w
  clear hs hm
  go_enter Tryd.func6, Tryd.ntmps6
  go_wp2_with fail
  refine HL.out.mono ?_
  rintro e w1 ⟨rfl, q⟩
  have B1 := Lib.hid q; clear q
  go_wp2_with fail
  refine (HW.out w1).mono ?_
  rintro e w2 ⟨v, rfl, q1, q2⟩
  have Q1 := Lib.hid q1
  have B2 := Lib.hid (B1.out.trans (q2.mono B1.out.size)); clear q2
  generalize hz : words S.data.toList = z at *
  have HZ := Lib.hid hz; clear hz
  have J : Hid (∀ W, Below w2.heap.size w2 W → Calls Tryd.prog 22 #[v, .string (ByteArray.mk #[32])] W fun e w' => e = .returned (.string (bs (Lib.join z [32]))) ∧ Below W.heap.size W w') := fun W hW => joinS_any (Q1.out.later hW) (by have := WB.out; omega)
  have JL : Hid ((bs (Lib.join z [32])).size ≤ 1048577) := by rw [bs_size]; exact Nat.le_trans (join_len z) WB.out
  have EQ : Hid (∀ W v2, Below w2.heap.size w2 W → SIn W v2 z → Calls Tryd.prog 12 #[v2, v] W fun e w' => e = .returned (.bool true) ∧ ∃ q, w' = W.drewN q) := fun W v2 hW h2 => by
    have := equal_of h2 (Q1.out.later hW)
    rw [decide_eq_true rfl] at this
    exact this
  have WJ2 : Hid (∀ W, Calls Tryd.prog 13 #[.string (bs (Lib.join z [32]))] W fun e w' => ∃ v, e = .returned v ∧ SIn w' v z ∧ Below W.heap.size W w') := fun W => by
    have := words_any (bs (Lib.join z [32])) W (by have := JL.out; omega)
    rw [bs_list, WJ.out] at this
    exact this
  have hb := q1.bound
  rcases q1.open with ⟨hz, a, cap, rfl⟩ | ⟨hpos, b, off, cap, rfl, hcap, hlt, hc⟩
  · have tz : (bs (triml (trimr S.data.toList))).toList.isEmpty = true := by rw [TN.out.2 hz]; exact bs_none
    have TZ := Lib.hid tz; clear tz
    clear q1 hb
    subst hz
    go_wp2_with fail
    refine wp_loop_rounds 1 ?_
    repeat any_goals (rw [rounds_succ]; go_wp2_with fail)
    refine (J.out w2 (Below.refl _ _)).mono ?_
    rintro e w3 ⟨rfl, q⟩
    have B3 := Lib.hid (B2.out.trans (q.mono B2.out.size)); have C3 := Lib.hid q; clear q
    go_wp2_with fail
    refine (WJ2.out w3).mono ?_
    rintro e w4 ⟨v4, rfl, q1, q2⟩
    have B4 := Lib.hid (B3.out.trans (q2.mono B3.out.size)); have C4 := Lib.hid (C3.out.trans (q2.mono C3.out.size)); have S4 := Lib.hid q1; clear q1 q2
    go_wp2_with fail
    refine (EQ.out w4 v4 C4.out S4.out).mono ?_
    rintro e w5 ⟨rfl, k, q⟩
    have B5 : Hid (Below w.heap.size w w5) := by rw [q]; exact below_drewN' B4.out k
    clear q
    go_wp2_with fail
    refine (HT.out w5).mono ?_
    rintro e w6 ⟨rfl, q⟩
    have B6 := Lib.hid (B5.out.trans (q.mono B5.out.size)); clear q
    have tz := TZ.out
    go_wp2
    go_ret
    exact ⟨rfl, B6.out⟩
  · have tz : (bs (triml (trimr S.data.toList))).toList.isEmpty = false := bs_some (fun e => by rw [TN.out.1 e] at hpos; exact absurd hpos (Nat.not_lt_zero _))
    have TZ := Lib.hid tz; clear tz
    have HC : Hid (∀ W, Below w2.heap.size w2 W → ∀ k, k < z.length → W.cell? ⟨b, off + k, none⟩ = some (.string (bs (z.getD k [])))) := fun W hW k hk => cell_later hW (hc k hk)
    have MEM : Hid (∀ k, k < z.length → z.getD k [] ∈ z) := fun k hk => getD_mem hk
    have hp0 : (0 : Int) < (z.length : Int) := by omega
    clear q1 hc hlt
    go_wp2_with fail
    go_loopw [12] (fun i wr => ∃ k : Nat, k ≤ z.length ∧ i = .int .i64 (k : Int) ∧ Below w2.heap.size w2 wr) (fun i _ => z.length - (intOf i).toNat)
    case atStart => exact ⟨0, Nat.zero_le _, rfl, Below.refl _ _⟩
    case round =>
      obtain ⟨k, hk, rfl, q⟩ := hrel
      have QW := Lib.hid q; clear q
      by_cases hk2 : k < z.length
      · have c1 := HC.out wr QW.out k hk2
        have m1 := Lib.hid (MEM.out k hk2)
        generalize z.getD k [] = x at c1 m1
        have e1 : (bs x).toList.isEmpty = false := bs_some (WO.out x m1.out).1
        go_wp2_with fail
        refine (CA.out x m1.out wr).mono ?_
        rintro e w3 ⟨rfl, q⟩
        have Q3 := Lib.hid (QW.out.trans (q.mono QW.out.size)); clear q
        go_wp2
        go_roundw
        case rel => exact ⟨k + 1, by omega, by go_num, Q3.out⟩
        case measure => simp [intOf]; omega
      · obtain rfl : k = z.length := by omega
        go_wp2_with fail
        refine (J.out wr QW.out).mono ?_
        rintro e w3 ⟨rfl, q⟩
        have C3 := Lib.hid (QW.out.trans (q.mono QW.out.size)); clear q
        go_wp2_with fail
        refine (WJ2.out w3).mono ?_
        rintro e w4 ⟨v4, rfl, q1, q2⟩
        have C4 := Lib.hid (C3.out.trans (q2.mono C3.out.size)); have S4 := Lib.hid q1; clear q1 q2
        go_wp2_with fail
        refine (EQ.out w4 v4 C4.out S4.out).mono ?_
        rintro e w5 ⟨rfl, n, q⟩
        have B5 : Hid (Below w.heap.size w w5) := by rw [q]; exact below_drewN' (B2.out.trans (C4.out.mono B2.out.size)) n
        clear q
        go_wp2_with fail
        refine (HT.out w5).mono ?_
        rintro e w6 ⟨rfl, q⟩
        have B6 := Lib.hid (B5.out.trans (q.mono B5.out.size)); clear q
        have tz := TZ.out
        go_wp2
        go_ret
        exact ⟨rfl, B6.out⟩
end Go.Proofs.YtnfjcclblggbiaaDoor
