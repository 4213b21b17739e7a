/-
  What the reference's needsOf answers at rules with more needs. Condition: at most 100 rules with at most 64 needs each.
-/
import Derived.Test.YtihiohohocfchaaIRi
namespace Go.Proofs.Ytihiohohocfchaa
set_option maxRecDepth 100000
set_option linter.unusedVariables false
open Go.ChangeShapes Go.WideShapes Go.ChangeAt Go.RowKit

set_option maxHeartbeats 4000000 in
set_option maxRecDepth 100000 in
theorem rneedsW {w : World} {v : Value} {z : List Rl} (h : RIn w v z) (x : Str) (hn : z.length ≤ 100) (hd : ∀ k, k < z.length → (nd z k).length ≤ 64) :
    Calls Try.prog 34 #[v, .string (bs x)] w fun e w' => ∃ u, e = .returned u ∧ SO w.heap.size u (needsR z x) w' ∧ (∀ y ∈ needsR z x, y.length ≤ 9223372036854775807) ∧ (needsR z x).length ≤ 6400 ∧ Below w.heap.size w w' := by
  obtain ⟨i0, hi, hz0, hz1, hz2⟩ := info_parts infoStr
  have HI := Lib.hid hi; clear hi
  rcases h.open with ⟨rfl, a, cap, rfl⟩ | ⟨hp, b, off, cap, rfl, hcap, hlt, T, U, hc⟩
  · clear h hn hd
    go_enter Try.func34, Try.ntmps34
    go_wp2_with fail
    go_rounds 1
    go_ret
    exact ⟨_, rfl, World.ownsRow_nil _ _ _ _, fun y hy => absurd hy List.not_mem_nil, Nat.zero_le _, Below.refl _ _⟩
  · have HC : Hid (∀ W, Below w.heap.size w W → ∀ k, k < z.length → W.cell? ⟨b, off + k * 2, none⟩ = some (T k) ∧ W.cell? ⟨b, off + k * 2 + 1, none⟩ = some (U k) ∧ SIn W (T k) (tg z k) ∧ SIn W (U k) (nd z k)) := fun W hW k hk => ⟨cell_later hW (hc k hk).1, cell_later hW (hc k hk).2.1, (hc k hk).2.2.1.later hW, (hc k hk).2.2.2.later hW⟩
    have HD := Lib.hid hd
    have N0 : Hid (needsR (z.take 0) x = []) := rfl
    have NE : Hid (needsR (z.take z.length) x = needsR z x) := Lib.hid (by rw [List.take_length])
    have NS : Hid (∀ k, k < z.length → needsR (z.take (k + 1)) x = needStep x (needsR (z.take k) x) (tg z k, nd z k)) := fun k hk => needs_take hk
    clear hc hd h
    generalize hL : z.length = L at *
    clear hL
    go_enter Try.func34, Try.ntmps34
    go_wp2_with fail
    go_loopw [5, 12] (fun o i wr => ∃ (k : Nat) (acc : List Str), k ≤ L ∧ i = .int .i64 (k : Int) ∧ acc = needsR (z.take k) x ∧ SO w.heap.size o acc wr ∧ (∀ y ∈ acc, y.length ≤ 9223372036854775807) ∧ acc.length ≤ 64 * k ∧ Below w.heap.size w wr) (fun _ i _ => L - (intOf i).toNat)
    case atStart => exact ⟨0, [], Nat.zero_le _, rfl, N0.out.symm, World.ownsRow_nil _ _ _ _, fun y hy => absurd hy List.not_mem_nil, Nat.zero_le _, Below.refl _ _⟩
    case round =>
      obtain ⟨k, acc, hk, rfl, ha, qo, qs, ql, qb⟩ := hrel
      have QO := Lib.hid qo; have QS := Lib.hid qs; have QB := Lib.hid qb; have HA := Lib.hid ha; clear qo qs qb ha
      by_cases hkl : k < L
      · obtain ⟨c0, c1, s0, s1⟩ := HC.out wr QB.out k hkl
        have NK := Lib.hid (NS.out k hkl)
        have SW := Lib.hid (HC.out w (Below.refl _ _) k hkl).2.2.2
        have DK := HD.out k hkl
        generalize T k = tv at *
        generalize U k = uv at *
        generalize tg z k = tk at *
        generalize nd z k = nk at *
        obtain ⟨at', ct, rfl⟩ := s0.shape
        have BA : Hid (∀ o, Below wr.heap.size wr (wr.alloc o)) := fun o => (Below.refl _ _).alloc (Nat.le_refl _) _
        have S0 : Hid (∀ o, SIn (wr.alloc o) (.slice at' tk.length ct) tk) := fun o => s0.later (BA.out o)
        have OA : Hid (∀ o, (wr.alloc o).ownsRow w.heap.size 9 1 u5 acc.length (acc.map encStr)) := fun o => QO.out.alloc o
        have WA : Hid (∀ o, Below w.heap.size w (wr.alloc o)) := fun o => QB.out.alloc QB.out.size o
        by_cases hx : x ∈ tk
        · have HX := Lib.hid hx
          have ST : Hid (needStep x acc (tk, nk) = addAll acc nk) := Lib.hid (by unfold needStep; rw [if_pos hx])
          clear hx
          rcases s1.open with ⟨hnil, a2, c2, rfl⟩ | ⟨hp2, b2, off2, c2, rfl, hcap2, hlt2, hc2⟩
          · subst hnil
            clear s0 s1
            go_wp2_with fail
            refine (place_in (S0.out _) HX.out).mono ?_
            rintro e w' ⟨⟨i, t9, rfl⟩, rfl⟩
            go_wp2_with fail
            go_rounds 1
            go_roundw
            case rel =>
              refine ⟨k + 1, acc, by omega, by go_num, ?_, OA.out _, QS.out, by omega, WA.out _⟩
              rw [NK.out, ← HA.out, ST.out]; rfl
            case measure => simp [intOf]; omega
          · have SM := Lib.hid s1.small
            have HC2 : Hid (∀ W, Below w.heap.size w W → ∀ m, m < nk.length → W.cell? ⟨b2, off2 + m, none⟩ = some (.string (bs (nk.getD m [])))) := fun W hW m hm => by
              rcases (SW.out.later hW).open with ⟨e0, _⟩ | ⟨_, b3, off3, c3, e3, _, _, h3⟩
              · rw [e0] at hm; exact absurd hm (Nat.not_lt_zero _)
              · cases e3; exact h3 m hm
            have AT : Hid (∀ m, m < nk.length → addAll acc (nk.take (m + 1)) = addN (addAll acc (nk.take m)) (nk.getD m [])) := fun m hm => addAll_take hm
            have AE : Hid (addAll acc (nk.take nk.length) = addAll acc nk) := Lib.hid (by rw [List.take_length])
            have MM : Hid (∀ m, m < nk.length → (nk.getD m []).length ≤ 9223372036854775807) := fun m hm => SM.out _ (getD_mem hm)
            clear s0 s1 hc2
            generalize hln : nk.length = ln at *
            clear hln
            go_wp2_with fail
            refine (place_in (S0.out _) HX.out).mono ?_
            rintro e w' ⟨⟨i, t9, rfl⟩, rfl⟩
            go_wp2_with fail
            go_loopw [5, 24] (fun o i wi => ∃ (m : Nat) (ac : List Str), m ≤ ln ∧ i = .int .i64 (m : Int) ∧ ac = addAll acc (nk.take m) ∧ SO w.heap.size o ac wi ∧ (∀ y ∈ ac, y.length ≤ 9223372036854775807) ∧ ac.length ≤ 64 * k + m ∧ Below w.heap.size w wi) (fun _ i _ => ln - (intOf i).toNat)
            case atStart => exact ⟨0, acc, Nat.zero_le _, rfl, rfl, OA.out _, QS.out, ql, WA.out _⟩
            case round =>
              obtain ⟨m, ac, hm, rfl, ha2, qo2, qs2, ql2, qb2⟩ := hrel
              have QO2 := Lib.hid qo2; have QS2 := Lib.hid qs2; have QB2 := Lib.hid qb2; have HA2 := Lib.hid ha2; clear qo2 qs2 qb2 ha2
              rename World => wi
              by_cases hml : m < ln
              · have d0 := HC2.out wi QB2.out m hml
                have AM := Lib.hid (AT.out m hml)
                have YM := Lib.hid (MM.out m hml)
                generalize nk.getD m [] = y at *
                have I2 : Hid (SIn wi u5 ac) := SIn.own QO2.out (by omega) QS2.out
                by_cases hy : y ∈ ac
                · have HY := Lib.hid hy
                  have SY : Hid (addN ac y = ac) := Lib.hid (by unfold addN; rw [if_pos hy])
                  clear hy
                  go_wp2_with fail
                  refine (place_in I2.out HY.out).mono ?_
                  rintro e w' ⟨⟨i, t9, rfl⟩, rfl⟩
                  go_wp2
                  go_roundw
                  case rel =>
                    refine ⟨m + 1, ac, by omega, by go_num, ?_, QO2.out, QS2.out, by omega, QB2.out⟩
                    rw [AM.out, ← HA2.out, SY.out]
                  case measure => simp [intOf]; omega
                · have HY := Lib.hid hy
                  have SY : Hid (addN ac y = ac ++ [y]) := Lib.hid (by unfold addN; rw [if_neg hy])
                  clear hy
                  have OA2 : Hid (∀ o, (wi.alloc o).ownsRow w.heap.size 9 1 u5 ac.length (ac.map encStr)) := fun o => QO2.out.alloc o
                  have SA2 : Hid (∀ o, w.heap.size ≤ (wi.alloc o).heap.size) := fun o => by have := QB2.out.size; simp; omega
                  have LT2 : Hid (∀ k, u5.ownBlock = some k → w.heap.size ≤ k) := fun k hk => (QO2.out.lt k hk).1
                  have WA2 : Hid (∀ o, Below w.heap.size w (wi.alloc o)) := fun o => QB2.out.alloc QB2.out.size o
                  go_wp2_with fail
                  refine (place_out I2.out HY.out).mono ?_
                  rintro e w' ⟨rfl, hw'⟩
                  rw [hw']
                  clear hw'
                  go_wp2_with (at_builtin; go_must (refine wpList_append_own _ rfl (.tmp 32) (.tmp 34) 24 rfl w.heap.size 9 i0 (.string ByteArray.empty) 1 16 Try.underlying24 HI.out hz0 hz1 hz2 rfl (by decide) _ _ _ rfl (OA2.out _) ⟨wi.heap.size, 0, none⟩ 1 1 [.string (bs y)] rfl rfl (cell_one' _ _ _) (by intro u hu; simp at hu; rcases hu with rfl; rfl) (by unfold maxLen; omega) (by omega) (SA2.out _) ?_; intro v4 w4 q1 q2 q3; have O4 := Lib.hid q1; have G4 := Lib.hid q2; clear q1 q2 q3))
                  go_roundw
                  case rel =>
                    refine ⟨m + 1, ac ++ [y], by omega, by go_num, ?_, SO.snoc O4.out, ?_, by simp; omega, (WA2.out _).grown G4.out (SA2.out _) LT2.out⟩
                    · rw [AM.out, ← HA2.out, SY.out]
                    · intro q hq
                      rcases List.mem_append.1 hq with h | h
                      · exact QS2.out q h
                      · rw [List.mem_singleton] at h; rw [h]; exact YM.out
                  case measure => simp [intOf]; omega
              · obtain rfl : m = ln := by omega
                have A2 := HA2.out
                rw [AE.out, ← ST.out, HA.out, ← NK.out] at A2
                have HA3 := Lib.hid A2; clear A2
                go_wp2
                go_roundw
                case rel => exact ⟨k + 1, ac, by omega, by go_num, HA3.out, QO2.out, QS2.out, by omega, QB2.out⟩
                case measure => simp [intOf]; omega
        · have HX := Lib.hid hx
          have ST : Hid (needStep x acc (tk, nk) = acc) := Lib.hid (by unfold needStep; rw [if_neg hx])
          obtain ⟨a2, c2, rfl⟩ := s1.shape
          clear hx s0 s1
          go_wp2_with fail
          refine (place_out (S0.out _) HX.out).mono ?_
          rintro e w' ⟨rfl, rfl⟩
          go_wp2
          go_roundw
          case rel =>
            refine ⟨k + 1, acc, by omega, by go_num, ?_, OA.out _, QS.out, by omega, WA.out _⟩
            rw [NK.out, ← HA.out, ST.out]
          case measure => simp [intOf]; omega
      · obtain rfl : k = L := by omega
        have A := HA.out
        rw [NE.out] at A
        subst A
        go_wp2
        go_ret
        exact ⟨_, rfl, QO.out, QS.out, by omega, QB.out⟩
end Go.Proofs.Ytihiohohocfchaa
