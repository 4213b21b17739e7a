/-
  The law LineTells holds of every string, lines and byte: the walk. No condition.
-/
import Derived.Test.YtnfjcclblggbiaaDoorLRt
import Derived.Test.YtnfjcclblggbiaaDoorLSp
import Derived.Test.YtnfjcclblggbiaaDoorLWd
import Derived.Test.YtnfjcclblggbiaaDoorLEq
namespace Go.Proofs.YtnfjcclblggbiaaDoor
open Go.ChangeShapes Go.WideShapes Go.ChangeAt Go.RowKit

theorem first_hit (P : Nat → Prop) [DecidablePred P] : ∀ n, ¬ (∀ j, j < n → ¬ P j) → ∃ k, k < n ∧ P k ∧ ∀ j, j < k → ¬ P j
  | 0, h => absurd (fun j hj => absurd hj (Nat.not_lt_zero _)) h
  | n + 1, h => by
    by_cases h1 : ∀ j, j < n → ¬ P j
    · have hn : P n := by
        refine Classical.byContradiction fun hp => h fun j hj => ?_
        rcases Nat.lt_succ_iff_lt_or_eq.1 hj with k | k
        · exact h1 j k
        · rw [k]; exact hp
      exact ⟨n, by omega, hn, h1⟩
    · obtain ⟨k, hk, hp, hl⟩ := first_hit P n h1
      exact ⟨k, by omega, hp, hl⟩
theorem eqC (c d : UInt8) : ((c.toNat : Int) == (d.toNat : Int)) = decide (c = d) := by
  rw [Bool.eq_iff_iff, beq_iff_eq, decide_eq_true_iff]
  exact ⟨fun h => UInt8.toNat_inj.1 (by omega), fun h => by rw [h]⟩

/-- the index that is found so far -/
def kAt (k j : Nat) : Int := if j ≤ k then -1 else (k : Int)
theorem kAt_lo {k j : Nat} (h : j ≤ k) : kAt k j = -1 := if_pos h
theorem kAt_hi {k j : Nat} (h : k < j) : kAt k j = (k : Int) := if_neg (by omega)

set_option maxHeartbeats 8000000 in
set_option maxRecDepth 100000 in
theorem walkTells (S : ByteArray) {w : World} {v : Value} {z : List Ln} (h : LIn w v z) (c : UInt8) (hs : S.size ≤ 140737488355328) (hm : MX w) :
    Calls Tryd.prog 3 #[.string S, v, .int .u8 (c.toNat : Int)] w fun e w' => e = .returned (.bool true) ∧ Below w.heap.size w w' := by
  have HM := Lib.hid hm
  have HI := Lib.hid h
  have JA : Hid (∀ W, MX W → Calls Tryd.prog 7 #[.string S] W (JPost S.data.toList W)) := fun W hW => join_any S W (by omega) hW
  have JB : Hid (∀ W, Calls Tryd.prog 8 #[.string S] W (JPost S.data.toList W)) := fun W => linesOf_any S W (by omega)
  have JL := Lib.hid (joinR_few S.data.toList)
  unfold JPost at JA JB
  clear h hm
  generalize joinR S.data.toList = RJ at *
  obtain ⟨A, E⟩ := RJ
  dsimp only at *
  by_cases h500 : 500 < S.size
  · by_cases h20 : S.size ≤ 20000
    · clear JA JB JL HI HM
      go_enter Tryd.func3, Tryd.ntmps3
      go_wp2
      go_ret
      exact ⟨rfl, Below.refl _ _⟩
    · have h20' : 20000 < S.size := by omega
      clear h20
      go_enter Tryd.func3, Tryd.ntmps3
      go_wp2_with fail
      refine (JA.out _ HM.out).mono ?_
      rintro e w1 ⟨v1, rfl, o1, q1⟩
      have B1 := Lib.hid q1
      go_wp2_with fail
      refine (JB.out _).mono ?_
      rintro e w2 ⟨v2, rfl, o2, q2⟩
      have B2 := Lib.hid (B1.out.trans (q2.mono B1.out.size))
      have SM := Lib.hid (same_of ((LIn.own o1 (Nat.le_trans JL.out (by decide))).later q2) (LIn.own o2 (Nat.le_trans JL.out (by decide))))
      rw [decide_eq_true rfl] at SM
      clear o1 o2 q1 q2
      go_wp2_with fail
      refine SM.out.mono ?_
      rintro e w3 ⟨rfl, k3, q3⟩
      have B3 : Hid (Below w.heap.size w w3) := by rw [q3]; exact below_drewN' B2.out k3
      clear q3 SM B1 B2 JA JB
      have B7 := B3
      rcases HI.out.open with ⟨hz, a7, cap7, rfl⟩ | ⟨hpos, b, off, cap7, rfl, hcap, hlt, hc⟩
      · have TXL : Hid (∀ x ∈ z, x.2.length < 4294967281) := Lib.hid (by rw [hz]; simp)
        clear hz
        go_wp2_with fail
        refine wp_loop_rounds 1 ?_
        repeat any_goals (rw [rounds_succ]; go_wp2_with fail)
        have BQ := B7
        have MQ := Lib.hid (HM.out.later BQ.out)
        have PP := Lib.hid (print_any (HI.out.later BQ.out) TXL.out MQ.out)
        unfold PPost at PP
        go_wp2_with fail
        refine PP.out.mono ?_
        rintro e w8 ⟨rfl, q8⟩
        have B8 := Lib.hid (BQ.out.trans (q8.mono BQ.out.size)); clear q8
        have LT := Lib.hid (linesText_any (HI.out.later B8.out) TXL.out)
        unfold PPost at LT
        go_wp2_with fail
        refine LT.out.mono ?_
        rintro e w9 ⟨rfl, q9⟩
        have B9 := Lib.hid (B8.out.trans (q9.mono B8.out.size)); clear q9
        generalize (printR z).1 = pt at *
        generalize (printR z).2 = pe at *
        go_wp2
        go_ret
        exact ⟨rfl, B9.out⟩
      · have HC : Hid (∀ W, Below w.heap.size w W → ∀ k, k < z.length → W.cell? ⟨b, off + k * 2, none⟩ = some (.int .i64 (atOf z k)) ∧ W.cell? ⟨b, off + k * 2 + 1, none⟩ = some (.string (bs (txOf z k)))) := fun W hW k hk => ⟨cell_later hW (hc k _ (at_some hk)).1, cell_later hW (hc k _ (at_some hk)).2⟩
        have TA : Hid ((∀ k, k < z.length → (txOf z k).length ≤ 500) → ∀ x ∈ z, x.2.length < 4294967281) := fun hk x hx => by
          obtain ⟨k, hk1, rfl⟩ := List.mem_iff_getElem.1 hx
          have e := at_some hk1
          rw [List.getElem?_eq_getElem hk1] at e
          simp at e
          have := hk k hk1
          rw [e]; show (txOf z k).length < _; omega
        have hzl : z.length ≤ 8796093022208 := by obtain ⟨_, _, _, _, _, h4, _⟩ := HI.out; exact h4
        clear hc
        generalize atOf z = f at *
        generalize txOf z = g at *
        go_wp2_with fail
        go_loopw [124] (fun i wr => ∃ k : Nat, k ≤ z.length ∧ i = .int .i64 (k : Int) ∧ (∀ j, j < k → (g j).length ≤ 500) ∧ Below w.heap.size w wr) (fun i _ => z.length - (intOf i).toNat)
        case atStart => exact ⟨0, Nat.zero_le _, rfl, fun _ h => absurd h (Nat.not_lt_zero _), B7.out⟩
        case round =>
          obtain ⟨k, hk, rfl, hall, qb⟩ := hrel
          have AL := Lib.hid hall; have QB := Lib.hid qb; clear hall qb
          by_cases hk2 : k < z.length
          · obtain ⟨c1, c2⟩ := HC.out wr QB.out k hk2
            have BA : Hid (∀ o, Below w.heap.size w (wr.alloc o)) := fun o => QB.out.alloc QB.out.size o
            have gs : (bs (g k)).size = (g k).length := bs_size _
            by_cases hat : 1000 < f k ∧ f k ≤ 20000
            · obtain ⟨a1, a2⟩ := hat
              clear gs
              go_wp2
              go_ret
              exact ⟨rfl, BA.out _⟩
            · by_cases hbig : 500 < (g k).length
              · have s1 : 500 < (bs (g k)).size := by omega
                clear gs hbig
                by_cases a1 : 1000 < f k
                · have a2 : 20000 < f k := by omega
                  clear hat
                  go_wp2
                  go_ret
                  exact ⟨rfl, BA.out _⟩
                · clear hat
                  go_wp2
                  go_ret
                  exact ⟨rfl, BA.out _⟩
              · have s1 : (bs (g k)).size ≤ 500 := by omega
                have AL2 : Hid (∀ j, j < k + 1 → (g j).length ≤ 500) := fun j hj => by
                  rcases Nat.lt_succ_iff_lt_or_eq.1 hj with h | h
                  · exact AL.out j h
                  · rw [h]; omega
                clear gs hbig
                by_cases a1 : 1000 < f k
                · have a2 : 20000 < f k := by omega
                  clear hat
                  go_wp2
                  go_roundw
                  case rel => exact ⟨k + 1, by omega, by go_num, AL2.out, BA.out _⟩
                  case measure => simp [intOf]; omega
                · clear hat
                  go_wp2
                  go_roundw
                  case rel => exact ⟨k + 1, by omega, by go_num, AL2.out, BA.out _⟩
                  case measure => simp [intOf]; omega
          · obtain rfl : k = z.length := by omega
            have TXL := Lib.hid (TA.out AL.out)
            clear hk hk2
            have BQ := QB
            have MQ := Lib.hid (HM.out.later BQ.out)
            have PP := Lib.hid (print_any (HI.out.later BQ.out) TXL.out MQ.out)
            unfold PPost at PP
            go_wp2_with fail
            refine PP.out.mono ?_
            rintro e w8 ⟨rfl, q8⟩
            have B8 := Lib.hid (BQ.out.trans (q8.mono BQ.out.size)); clear q8
            have LT := Lib.hid (linesText_any (HI.out.later B8.out) TXL.out)
            unfold PPost at LT
            go_wp2_with fail
            refine LT.out.mono ?_
            rintro e w9 ⟨rfl, q9⟩
            have B9 := Lib.hid (B8.out.trans (q9.mono B8.out.size)); clear q9
            generalize (printR z).1 = pt at *
            generalize (printR z).2 = pe at *
            go_wp2
            go_ret
            exact ⟨rfl, B9.out⟩
  · have h500' : S.size ≤ 500 := by omega
    clear h500
    have WD : Hid (∀ W, Calls Tryd.prog 13 #[.string S] W fun e w' => ∃ v, e = .returned v ∧ SIn w' v (words S.data.toList) ∧ Below W.heap.size W w') := fun W => words_any S W (by omega)
    have WO : Hid (∀ W, Calls Tryd.prog 14 #[.string S] W fun e w' => ∃ v, e = .returned v ∧ SO W.heap.size v (words S.data.toList) w' ∧ Below W.heap.size W w') := fun W => wordsOf_any S W (by omega)
    obtain ⟨ws1, ws2⟩ := words_small S.data.toList (by rw [size_list]; omega)
    have WS : Hid (∀ B v W, SO B v (words S.data.toList) W → SIn W v (words S.data.toList)) := fun B v W h => h.sin ws1 ws2
    clear ws1 ws2
    have HF : Hid (∀ k (h : k < S.size), S[k].toNat = (bK S k).toNat) := bK_get S
    generalize words S.data.toList = wds at *
    by_cases hN : ∀ j, j < S.size → bK S j ≠ c
    · have SP : Hid (∀ W, Calls Tryd.prog 10 #[.string S, .int .u8 (c.toNat : Int)] W fun e w' => e = .returned (.tuple #[.string S, .string (ByteArray.mk #[]), .bool false]) ∧ w' = W) := fun W => split_no S c W hN
      have NE := Lib.hid hN; clear hN
      generalize bK S = g8 at *
      go_enter Tryd.func3, Tryd.ntmps3
      go_wp2_with fail
      refine (JA.out _ HM.out).mono ?_
      rintro e w1 ⟨v1, rfl, o1, q1⟩
      have B1 := Lib.hid q1
      go_wp2_with fail
      refine (JB.out _).mono ?_
      rintro e w2 ⟨v2, rfl, o2, q2⟩
      have B2 := Lib.hid (B1.out.trans (q2.mono B1.out.size))
      have SM := Lib.hid (same_of ((LIn.own o1 (Nat.le_trans JL.out (by decide))).later q2) (LIn.own o2 (Nat.le_trans JL.out (by decide))))
      rw [decide_eq_true rfl] at SM
      clear o1 o2 q1 q2
      go_wp2_with fail
      refine SM.out.mono ?_
      rintro e w3 ⟨rfl, k3, q3⟩
      have B3 : Hid (Below w.heap.size w w3) := by rw [q3]; exact below_drewN' B2.out k3
      clear q3 SM B1 B2 JA JB

      go_wp2_with fail
      refine (SP.out _).mono ?_
      rintro e w4 ⟨rfl, hw4⟩
      rw [hw4]
      clear hw4 w4
      rename World => w4
      go_wp2_with fail
      go_loopw [14, 61] (fun s14 i wr => ∃ j : Nat, j ≤ S.size ∧ i = .int .i64 (j : Int) ∧ s14 = .int .i64 (-1) ∧ wr = w4) (fun _ i _ => S.size - (intOf i).toNat)
      case atStart => exact ⟨0, Nat.zero_le _, rfl, rfl, rfl⟩
      case round =>
        obtain ⟨j, hj, rfl, rfl, hwr⟩ := hrel
        have hwr := hwr.symm
        subst hwr
        by_cases hj2 : j < S.size
        · have hb := HF.out j hj2
          have he := eqC (g8 j) c
          rw [decide_eq_false (NE.out j hj2)] at he
          go_wp2
          go_roundw
          case rel => exact ⟨j + 1, by omega, by go_num, rfl, trivial⟩
          case measure => simp [intOf]; omega
        · go_wp2_with fail
          have BZ := B3
          refine (WD.out _).mono ?_
          rintro e w5 ⟨v5, rfl, i5, q5⟩
          have I5 := Lib.hid i5; have B5 := Lib.hid (BZ.out.trans (q5.mono BZ.out.size)); clear i5 q5
          go_wp2_with fail
          refine (WO.out _).mono ?_
          rintro e w6 ⟨v6, rfl, o6, q6⟩
          have B6 := Lib.hid (B5.out.trans (q6.mono B5.out.size))
          have EQ := Lib.hid (equal_of (I5.out.later q6) (WS.out _ _ _ o6)); clear o6 q6
          rw [decide_eq_true rfl] at EQ
          go_wp2_with fail
          refine EQ.out.mono ?_
          rintro e w7 ⟨rfl, k7, q7⟩
          have B7 : Hid (Below w.heap.size w w7) := by rw [q7]; exact below_drewN' B6.out k7
          clear q7
          rcases HI.out.open with ⟨hz, a7, cap7, rfl⟩ | ⟨hpos, b, off, cap7, rfl, hcap, hlt, hc⟩
          · have TXL : Hid (∀ x ∈ z, x.2.length < 4294967281) := Lib.hid (by rw [hz]; simp)
            clear hz
            go_wp2_with fail
            refine wp_loop_rounds 1 ?_
            repeat any_goals (rw [rounds_succ]; go_wp2_with fail)
            have BQ := B7
            have MQ := Lib.hid (HM.out.later BQ.out)
            have PP := Lib.hid (print_any (HI.out.later BQ.out) TXL.out MQ.out)
            unfold PPost at PP
            go_wp2_with fail
            refine PP.out.mono ?_
            rintro e w8 ⟨rfl, q8⟩
            have B8 := Lib.hid (BQ.out.trans (q8.mono BQ.out.size)); clear q8
            have LT := Lib.hid (linesText_any (HI.out.later B8.out) TXL.out)
            unfold PPost at LT
            go_wp2_with fail
            refine LT.out.mono ?_
            rintro e w9 ⟨rfl, q9⟩
            have B9 := Lib.hid (B8.out.trans (q9.mono B8.out.size)); clear q9
            generalize (printR z).1 = pt at *
            generalize (printR z).2 = pe at *
            go_wp2
            go_ret
            exact ⟨rfl, B9.out⟩
          · have HC : Hid (∀ W, Below w.heap.size w W → ∀ k, k < z.length → W.cell? ⟨b, off + k * 2, none⟩ = some (.int .i64 (atOf z k)) ∧ W.cell? ⟨b, off + k * 2 + 1, none⟩ = some (.string (bs (txOf z k)))) := fun W hW k hk => ⟨cell_later hW (hc k _ (at_some hk)).1, cell_later hW (hc k _ (at_some hk)).2⟩
            have TA : Hid ((∀ k, k < z.length → (txOf z k).length ≤ 500) → ∀ x ∈ z, x.2.length < 4294967281) := fun hk x hx => by
              obtain ⟨k, hk1, rfl⟩ := List.mem_iff_getElem.1 hx
              have e := at_some hk1
              rw [List.getElem?_eq_getElem hk1] at e
              simp at e
              have := hk k hk1
              rw [e]; show (txOf z k).length < _; omega
            have hzl : z.length ≤ 8796093022208 := by obtain ⟨_, _, _, _, _, h4, _⟩ := HI.out; exact h4
            clear hc
            generalize atOf z = f at *
            generalize txOf z = g at *
            go_wp2_with fail
            go_loopw [124] (fun i wr => ∃ k : Nat, k ≤ z.length ∧ i = .int .i64 (k : Int) ∧ (∀ j, j < k → (g j).length ≤ 500) ∧ Below w.heap.size w wr) (fun i _ => z.length - (intOf i).toNat)
            case atStart => exact ⟨0, Nat.zero_le _, rfl, fun _ h => absurd h (Nat.not_lt_zero _), B7.out⟩
            case round =>
              obtain ⟨k, hk, rfl, hall, qb⟩ := hrel
              have AL := Lib.hid hall; have QB := Lib.hid qb; clear hall qb
              by_cases hk2 : k < z.length
              · obtain ⟨c1, c2⟩ := HC.out wr QB.out k hk2
                have BA : Hid (∀ o, Below w.heap.size w (wr.alloc o)) := fun o => QB.out.alloc QB.out.size o
                have gs : (bs (g k)).size = (g k).length := bs_size _
                by_cases hat : 1000 < f k ∧ f k ≤ 20000
                · obtain ⟨a1, a2⟩ := hat
                  clear gs
                  go_wp2
                  go_ret
                  exact ⟨rfl, BA.out _⟩
                · by_cases hbig : 500 < (g k).length
                  · have s1 : 500 < (bs (g k)).size := by omega
                    clear gs hbig
                    by_cases a1 : 1000 < f k
                    · have a2 : 20000 < f k := by omega
                      clear hat
                      go_wp2
                      go_ret
                      exact ⟨rfl, BA.out _⟩
                    · clear hat
                      go_wp2
                      go_ret
                      exact ⟨rfl, BA.out _⟩
                  · have s1 : (bs (g k)).size ≤ 500 := by omega
                    have AL2 : Hid (∀ j, j < k + 1 → (g j).length ≤ 500) := fun j hj => by
                      rcases Nat.lt_succ_iff_lt_or_eq.1 hj with h | h
                      · exact AL.out j h
                      · rw [h]; omega
                    clear gs hbig
                    by_cases a1 : 1000 < f k
                    · have a2 : 20000 < f k := by omega
                      clear hat
                      go_wp2
                      go_roundw
                      case rel => exact ⟨k + 1, by omega, by go_num, AL2.out, BA.out _⟩
                      case measure => simp [intOf]; omega
                    · clear hat
                      go_wp2
                      go_roundw
                      case rel => exact ⟨k + 1, by omega, by go_num, AL2.out, BA.out _⟩
                      case measure => simp [intOf]; omega
              · obtain rfl : k = z.length := by omega
                have TXL := Lib.hid (TA.out AL.out)
                clear hk hk2
                have BQ := QB
                have MQ := Lib.hid (HM.out.later BQ.out)
                have PP := Lib.hid (print_any (HI.out.later BQ.out) TXL.out MQ.out)
                unfold PPost at PP
                go_wp2_with fail
                refine PP.out.mono ?_
                rintro e w8 ⟨rfl, q8⟩
                have B8 := Lib.hid (BQ.out.trans (q8.mono BQ.out.size)); clear q8
                have LT := Lib.hid (linesText_any (HI.out.later B8.out) TXL.out)
                unfold PPost at LT
                go_wp2_with fail
                refine LT.out.mono ?_
                rintro e w9 ⟨rfl, q9⟩
                have B9 := Lib.hid (B8.out.trans (q9.mono B8.out.size)); clear q9
                generalize (printR z).1 = pt at *
                generalize (printR z).2 = pe at *
                go_wp2
                go_ret
                exact ⟨rfl, B9.out⟩
    · obtain ⟨k, hk, hkc, hkl⟩ := first_hit (fun j => bK S j = c) S.size (fun h => hN h)
      clear hN
      have SP : Hid (∀ W, Calls Tryd.prog 10 #[.string S, .int .u8 (c.toNat : Int)] W fun e w' => e = .returned (.tuple #[.string (bs (triml (trimr (S.data.toList.take k)))), .string (bs (triml (trimr (S.data.toList.drop (k + 1))))), .bool true]) ∧ Below W.heap.size W w') := fun W => split_at S c k W (by omega) hk hkc hkl
      have x1 := bs_take S k
      have x2 := bs_drop S (k + 1)
      have l1 : (S.data.toList.take k).length ≤ 500 := by rw [List.length_take, size_list]; omega
      have l2 : (S.data.toList.drop (k + 1)).length ≤ 500 := by rw [List.length_drop, size_list]; omega
      have L1 := Lib.hid l1; have L2 := Lib.hid l2
      clear l1 l2
      have TT : Hid (∀ (x : Str) W, x.length ≤ 500 → Calls Tryd.prog 11 #[.string (bs x)] W fun e w' => e = .returned (.string (bs (triml (trimr x)))) ∧ w' = W) := fun x W hx => trimmed_any (bs x) W (by rw [bs_size]; omega)
      generalize S.data.toList.take k = a at *
      generalize S.data.toList.drop (k + 1) = b0 at *
      have KC := Lib.hid hkc; have KL : Hid (∀ j, j < k → bK S j ≠ c) := hkl; clear hkc hkl
      generalize bK S = g8 at *
      have K0 : Hid (kAt k 0 = -1) := kAt_lo (Nat.zero_le _)
      have X1 := Lib.hid x1; have X2 := Lib.hid x2; clear x1 x2
      go_enter Tryd.func3, Tryd.ntmps3
      go_wp2_with fail
      refine (JA.out _ HM.out).mono ?_
      rintro e w1 ⟨v1, rfl, o1, q1⟩
      have B1 := Lib.hid q1
      go_wp2_with fail
      refine (JB.out _).mono ?_
      rintro e w2 ⟨v2, rfl, o2, q2⟩
      have B2 := Lib.hid (B1.out.trans (q2.mono B1.out.size))
      have SM := Lib.hid (same_of ((LIn.own o1 (Nat.le_trans JL.out (by decide))).later q2) (LIn.own o2 (Nat.le_trans JL.out (by decide))))
      rw [decide_eq_true rfl] at SM
      clear o1 o2 q1 q2
      go_wp2_with fail
      refine SM.out.mono ?_
      rintro e w3 ⟨rfl, k3, q3⟩
      have B3 : Hid (Below w.heap.size w w3) := by rw [q3]; exact below_drewN' B2.out k3
      clear q3 SM B1 B2 JA JB
      go_wp2_with fail
      refine (SP.out _).mono ?_
      rintro e w4 ⟨rfl, q4⟩
      have B4 := Lib.hid (B3.out.trans (q4.mono B3.out.size)); clear q4 B3
      go_wp2_with fail
      go_loopw [14, 61] (fun s14 i wr => ∃ j : Nat, j ≤ S.size ∧ i = .int .i64 (j : Int) ∧ s14 = .int .i64 (kAt k j) ∧ wr = w4) (fun _ i _ => S.size - (intOf i).toNat)
      case atStart => exact ⟨0, Nat.zero_le _, rfl, by rw [K0.out], rfl⟩
      case round =>
        obtain ⟨j, hj, rfl, rfl, hwr⟩ := hrel
        have hwr := hwr.symm
        subst hwr
        rcases Nat.lt_or_ge j S.size with hj2 | hj2
        · have hb := HF.out j hj2
          have he := eqC (g8 j) c
          rcases Nat.lt_trichotomy j k with hjk | hjk | hjk
          · rw [decide_eq_false (KL.out j hjk)] at he
            have e1 : Hid (kAt k (j + 1) = kAt k j) := Lib.hid (by rw [kAt_lo (by omega), kAt_lo (by omega)])
            generalize kAt k j = kv at *
            go_wp2
            go_roundw
            case rel => exact ⟨j + 1, by omega, by go_num, by rw [e1.out], trivial⟩
            case measure => simp [intOf]; omega
          · rw [kAt_lo (show j ≤ k by omega)]
            have e1 : Hid (kAt k (j + 1) = (j : Int)) := Lib.hid (by rw [kAt_hi (by omega), hjk])
            have hjc : g8 j = c := by rw [hjk]; exact KC.out
            rw [decide_eq_true hjc] at he
            clear hjk hjc
            go_wp2
            go_roundw
            case rel => exact ⟨j + 1, by omega, by go_num, by rw [e1.out], trivial⟩
            case measure => simp [intOf]; omega
          · rw [kAt_hi hjk]
            have e1 : Hid (kAt k (j + 1) = (k : Int)) := Lib.hid (kAt_hi (by omega))
            by_cases hjc : g8 j = c
            · rw [decide_eq_true hjc] at he
              have t2 : decide ((k : Int) < 0) = false := decide_eq_false (by omega)
              clear hjc
              go_wp2
              go_roundw
              case rel => exact ⟨j + 1, by omega, by go_num, by rw [e1.out], trivial⟩
              case measure => simp [intOf]; omega
            · rw [decide_eq_false hjc] at he
              clear hjc
              go_wp2
              go_roundw
              case rel => exact ⟨j + 1, by omega, by go_num, by rw [e1.out], trivial⟩
              case measure => simp [intOf]; omega
        · rw [kAt_hi (show k < j by omega)]
          have x1 := X1.out; have x2 := X2.out
          have t2 : decide ((k : Int) < 0) = false := decide_eq_false (by omega)
          have t3 : decide ((0 : Int) ≤ (k : Int)) = true := decide_eq_true (by omega)
          have i1 : (k : Int) + 1 ≤ (S.size : Int) := by omega
          have i2 : ((k : Int) + 1).toNat = k + 1 := by omega
          have i4 : (k : Int) ≤ (S.size : Int) := by omega
          obtain rfl : j = S.size := by omega
          clear hj hj2
          go_wp2_with fail
          refine (TT.out a _ L1.out).mono ?_
          rintro e w5 ⟨rfl, hw5⟩
          rw [hw5]
          clear hw5 w5
          go_wp2_with fail
          refine (TT.out b0 _ L2.out).mono ?_
          rintro e w5 ⟨rfl, hw5⟩
          rw [hw5]
          clear hw5 w5
          go_wp2_with fail
          have BZ := B4
          clear x1 x2
          refine (WD.out _).mono ?_
          rintro e w5 ⟨v5, rfl, i5, q5⟩
          have I5 := Lib.hid i5; have B5 := Lib.hid (BZ.out.trans (q5.mono BZ.out.size)); clear i5 q5
          go_wp2_with fail
          refine (WO.out _).mono ?_
          rintro e w6 ⟨v6, rfl, o6, q6⟩
          have B6 := Lib.hid (B5.out.trans (q6.mono B5.out.size))
          have EQ := Lib.hid (equal_of (I5.out.later q6) (WS.out _ _ _ o6)); clear o6 q6
          rw [decide_eq_true rfl] at EQ
          go_wp2_with fail
          refine EQ.out.mono ?_
          rintro e w7 ⟨rfl, k7, q7⟩
          have B7 : Hid (Below w.heap.size w w7) := by rw [q7]; exact below_drewN' B6.out k7
          clear q7
          rcases HI.out.open with ⟨hz, a7, cap7, rfl⟩ | ⟨hpos, b, off, cap7, rfl, hcap, hlt, hc⟩
          · have TXL : Hid (∀ x ∈ z, x.2.length < 4294967281) := Lib.hid (by rw [hz]; simp)
            clear hz
            go_wp2_with fail
            refine wp_loop_rounds 1 ?_
            repeat any_goals (rw [rounds_succ]; go_wp2_with fail)
            have BQ := B7
            have MQ := Lib.hid (HM.out.later BQ.out)
            have PP := Lib.hid (print_any (HI.out.later BQ.out) TXL.out MQ.out)
            unfold PPost at PP
            go_wp2_with fail
            refine PP.out.mono ?_
            rintro e w8 ⟨rfl, q8⟩
            have B8 := Lib.hid (BQ.out.trans (q8.mono BQ.out.size)); clear q8
            have LT := Lib.hid (linesText_any (HI.out.later B8.out) TXL.out)
            unfold PPost at LT
            go_wp2_with fail
            refine LT.out.mono ?_
            rintro e w9 ⟨rfl, q9⟩
            have B9 := Lib.hid (B8.out.trans (q9.mono B8.out.size)); clear q9
            generalize (printR z).1 = pt at *
            generalize (printR z).2 = pe at *
            go_wp2
            go_ret
            exact ⟨rfl, B9.out⟩
          · have HC : Hid (∀ W, Below w.heap.size w W → ∀ k, k < z.length → W.cell? ⟨b, off + k * 2, none⟩ = some (.int .i64 (atOf z k)) ∧ W.cell? ⟨b, off + k * 2 + 1, none⟩ = some (.string (bs (txOf z k)))) := fun W hW k hk => ⟨cell_later hW (hc k _ (at_some hk)).1, cell_later hW (hc k _ (at_some hk)).2⟩
            have TA : Hid ((∀ k, k < z.length → (txOf z k).length ≤ 500) → ∀ x ∈ z, x.2.length < 4294967281) := fun hk x hx => by
              obtain ⟨k, hk1, rfl⟩ := List.mem_iff_getElem.1 hx
              have e := at_some hk1
              rw [List.getElem?_eq_getElem hk1] at e
              simp at e
              have := hk k hk1
              rw [e]; show (txOf z k).length < _; omega
            have hzl : z.length ≤ 8796093022208 := by obtain ⟨_, _, _, _, _, h4, _⟩ := HI.out; exact h4
            clear hc
            generalize atOf z = f at *
            generalize txOf z = g at *
            go_wp2_with fail
            go_loopw [124] (fun i wr => ∃ k : Nat, k ≤ z.length ∧ i = .int .i64 (k : Int) ∧ (∀ j, j < k → (g j).length ≤ 500) ∧ Below w.heap.size w wr) (fun i _ => z.length - (intOf i).toNat)
            case atStart => exact ⟨0, Nat.zero_le _, rfl, fun _ h => absurd h (Nat.not_lt_zero _), B7.out⟩
            case round =>
              obtain ⟨k, hk, rfl, hall, qb⟩ := hrel
              have AL := Lib.hid hall; have QB := Lib.hid qb; clear hall qb
              by_cases hk2 : k < z.length
              · obtain ⟨c1, c2⟩ := HC.out wr QB.out k hk2
                have BA : Hid (∀ o, Below w.heap.size w (wr.alloc o)) := fun o => QB.out.alloc QB.out.size o
                have gs : (bs (g k)).size = (g k).length := bs_size _
                by_cases hat : 1000 < f k ∧ f k ≤ 20000
                · obtain ⟨a1, a2⟩ := hat
                  clear gs
                  go_wp2
                  go_ret
                  exact ⟨rfl, BA.out _⟩
                · by_cases hbig : 500 < (g k).length
                  · have s1 : 500 < (bs (g k)).size := by omega
                    clear gs hbig
                    by_cases a1 : 1000 < f k
                    · have a2 : 20000 < f k := by omega
                      clear hat
                      go_wp2
                      go_ret
                      exact ⟨rfl, BA.out _⟩
                    · clear hat
                      go_wp2
                      go_ret
                      exact ⟨rfl, BA.out _⟩
                  · have s1 : (bs (g k)).size ≤ 500 := by omega
                    have AL2 : Hid (∀ j, j < k + 1 → (g j).length ≤ 500) := fun j hj => by
                      rcases Nat.lt_succ_iff_lt_or_eq.1 hj with h | h
                      · exact AL.out j h
                      · rw [h]; omega
                    clear gs hbig
                    by_cases a1 : 1000 < f k
                    · have a2 : 20000 < f k := by omega
                      clear hat
                      go_wp2
                      go_roundw
                      case rel => exact ⟨k + 1, by omega, by go_num, AL2.out, BA.out _⟩
                      case measure => simp [intOf]; omega
                    · clear hat
                      go_wp2
                      go_roundw
                      case rel => exact ⟨k + 1, by omega, by go_num, AL2.out, BA.out _⟩
                      case measure => simp [intOf]; omega
              · obtain rfl : k = z.length := by omega
                have TXL := Lib.hid (TA.out AL.out)
                clear hk hk2
                have BQ := QB
                have MQ := Lib.hid (HM.out.later BQ.out)
                have PP := Lib.hid (print_any (HI.out.later BQ.out) TXL.out MQ.out)
                unfold PPost at PP
                go_wp2_with fail
                refine PP.out.mono ?_
                rintro e w8 ⟨rfl, q8⟩
                have B8 := Lib.hid (BQ.out.trans (q8.mono BQ.out.size)); clear q8
                have LT := Lib.hid (linesText_any (HI.out.later B8.out) TXL.out)
                unfold PPost at LT
                go_wp2_with fail
                refine LT.out.mono ?_
                rintro e w9 ⟨rfl, q9⟩
                have B9 := Lib.hid (B8.out.trans (q9.mono B8.out.size)); clear q9
                generalize (printR z).1 = pt at *
                generalize (printR z).2 = pe at *
                go_wp2
                go_ret
                exact ⟨rfl, B9.out⟩
end Go.Proofs.YtnfjcclblggbiaaDoor
