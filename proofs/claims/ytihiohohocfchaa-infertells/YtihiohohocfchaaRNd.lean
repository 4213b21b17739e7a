/-
  What package rule's needsOf answers. Condition: at most 100 rules with at most 20 needs each.
-/
import Derived.Test.YtihiohohocfchaaRTl
namespace Go.Proofs.Ytihiohohocfchaa
set_option maxRecDepth 100000
set_option linter.unusedVariables false
open Go.ChangeShapes Go.WideShapes Go.ChangeAt Go.RowKit

def addN (acc : List Str) (x : Str) : List Str := if x ∈ acc then acc else acc ++ [x]
def addAll (acc l : List Str) : List Str := l.foldl addN acc
def needStep (t : Str) (acc : List Str) (r : Rl) : List Str := if t ∈ r.1 then addAll acc r.2 else acc
/-- the needs of the rules that have the target, each at its first occurrence -/
def needsR (l : List Rl) (t : Str) : List Str := l.foldl (needStep t) []
theorem addN_mem {acc : List Str} {x y : Str} : y ∈ addN acc x ↔ y ∈ acc ∨ y = x := by
  unfold addN
  by_cases h : x ∈ acc
  · rw [if_pos h]
    exact ⟨.inl, fun k => k.elim id (fun e => e ▸ h)⟩
  · rw [if_neg h]; simp
theorem addN_len (acc : List Str) (x : Str) : (addN acc x).length ≤ acc.length + 1 := by
  unfold addN
  by_cases h : x ∈ acc
  · rw [if_pos h]; omega
  · rw [if_neg h]; simp
theorem addAll_take {acc l : List Str} {m : Nat} (h : m < l.length) : addAll acc (l.take (m + 1)) = addN (addAll acc (l.take m)) (l.getD m []) := by
  unfold addAll
  rw [List.take_add_one, List.getElem?_eq_getElem h, List.getD, List.getElem?_eq_getElem h, List.foldl_append]
  rfl
theorem addAll_mem : ∀ {l acc : List Str} {y : Str}, y ∈ addAll acc l ↔ y ∈ acc ∨ y ∈ l
  | [], acc, y => by simp [addAll]
  | x :: r, acc, y => by
    show y ∈ addAll (addN acc x) r ↔ _
    rw [addAll_mem, addN_mem, List.mem_cons]
    constructor
    · rintro ((h | h) | h)
      · exact .inl h
      · exact .inr (.inl h)
      · exact .inr (.inr h)
    · rintro (h | h | h)
      · exact .inl (.inl h)
      · exact .inl (.inr h)
      · exact .inr h
theorem addAll_len : ∀ (l acc : List Str), (addAll acc l).length ≤ acc.length + l.length
  | [], acc => by simp [addAll]
  | x :: r, acc => by
    have h1 := addAll_len r (addN acc x)
    have h2 := addN_len acc x
    show (addAll (addN acc x) r).length ≤ _
    rw [List.length_cons]
    omega
theorem needs_take {z : List Rl} {t : Str} {k : Nat} (h : k < z.length) : needsR (z.take (k + 1)) t = needStep t (needsR (z.take k) t) (tg z k, nd z k) := by
  unfold needsR
  rw [rl_take h, List.foldl_append]
  rfl
theorem needs_mem : ∀ {l : List Rl} {acc : List Str} {t y : Str}, y ∈ l.foldl (needStep t) acc ↔ y ∈ acc ∨ ∃ r ∈ l, t ∈ r.1 ∧ y ∈ r.2
  | [], acc, t, y => by simp
  | r :: l, acc, t, y => by
    rw [List.foldl_cons, needs_mem]
    unfold needStep
    by_cases h : t ∈ r.1
    · rw [if_pos h, addAll_mem]
      simp [h, or_assoc]
    · rw [if_neg h]
      simp [h]
theorem needs_spec (l : List Rl) (t y : Str) : y ∈ needsR l t ↔ ∃ r ∈ l, t ∈ r.1 ∧ y ∈ r.2 := by
  unfold needsR
  rw [needs_mem]
  simp

set_option maxHeartbeats 4000000 in
set_option maxRecDepth 100000 in
theorem needs_any {w : World} {v : Value} {z : List Rl} (h : RIn w v z) (x : Str) (hn : z.length ≤ 100) (hd : ∀ k, k < z.length → (nd z k).length ≤ 20) (hs : ∀ k, k < z.length → ∀ y ∈ nd z k, y.length ≤ 4294967296) :
    Calls Try.prog 42 #[v, .string (bs x)] w fun e w' => ∃ u, e = .returned u ∧ SO w.heap.size u (needsR z x) w' ∧ (∀ y ∈ needsR z x, y.length ≤ 9223372036854775807) ∧ (needsR z x).length ≤ 2000 ∧ Below w.heap.size w w' ∧ Tl u w' := by
  obtain ⟨i0, hi, hz0, hz1, hz2⟩ := info_parts infoStr
  have HI := Lib.hid hi; clear hi
  rcases h.open with ⟨rfl, a, cap, rfl⟩ | ⟨hp, b, off, cap, rfl, hcap, hlt, T, U, hc⟩
  · clear h hn hd hs
    go_enter Try.func42, Try.ntmps42
    go_wp2_with fail
    go_rounds 1
    go_ret
    exact ⟨_, rfl, World.ownsRow_nil _ _ _ _, fun y hy => absurd hy List.not_mem_nil, Nat.zero_le _, Below.refl _ _, Tl.nil _ _ _⟩
  · have HC : Hid (∀ W, Below w.heap.size w W → ∀ k, k < z.length → W.cell? ⟨b, off + k * 2, none⟩ = some (T k) ∧ W.cell? ⟨b, off + k * 2 + 1, none⟩ = some (U k) ∧ SIn W (T k) (tg z k) ∧ SIn W (U k) (nd z k)) := fun W hW k hk => ⟨cell_later hW (hc k hk).1, cell_later hW (hc k hk).2.1, (hc k hk).2.2.1.later hW, (hc k hk).2.2.2.later hW⟩
    have HD := Lib.hid hd
    have HS := Lib.hid hs
    have N0 : Hid (needsR (z.take 0) x = []) := rfl
    have NE : Hid (needsR (z.take z.length) x = needsR z x) := Lib.hid (by rw [List.take_length])
    have NS : Hid (∀ k, k < z.length → needsR (z.take (k + 1)) x = needStep x (needsR (z.take k) x) (tg z k, nd z k)) := fun k hk => needs_take hk
    clear hc hd h hs
    generalize hL : z.length = L at *
    clear hL
    go_enter Try.func42, Try.ntmps42
    go_wp2_with fail
    go_loopw [5, 12] (fun o i wr => ∃ (k : Nat) (acc : List Str), k ≤ L ∧ i = .int .i64 (k : Int) ∧ acc = needsR (z.take k) x ∧ SO w.heap.size o acc wr ∧ (∀ y ∈ acc, y.length ≤ 9223372036854775807) ∧ acc.length ≤ 20 * k ∧ Below w.heap.size w wr ∧ Tl o wr) (fun _ i _ => L - (intOf i).toNat)
    case atStart => exact ⟨0, [], Nat.zero_le _, rfl, N0.out.symm, World.ownsRow_nil _ _ _ _, fun y hy => absurd hy List.not_mem_nil, Nat.zero_le _, Below.refl _ _, Tl.nil _ _ _⟩
    case round =>
      obtain ⟨k, acc, hk, rfl, ha, qo, qs, ql, qb, qt⟩ := hrel
      have QT := Lib.hid qt; clear qt
      have QO := Lib.hid qo; have QS := Lib.hid qs; have QB := Lib.hid qb; have HA := Lib.hid ha; clear qo qs qb ha
      by_cases hkl : k < L
      · obtain ⟨c0, c1, s0, s1⟩ := HC.out wr QB.out k hkl
        have NK := Lib.hid (NS.out k hkl)
        have SW := Lib.hid (HC.out w (Below.refl _ _) k hkl).2.2.2
        have DK := HD.out k hkl
        have HK := Lib.hid (HS.out k hkl)
        generalize T k = tv at *
        generalize U k = uv at *
        generalize tg z k = tk at *
        generalize nd z k = nk at *
        obtain ⟨at', ct, rfl⟩ := s0.shape
        have BA : Hid (∀ o, Below wr.heap.size wr (wr.alloc o)) := fun o => (Below.refl _ _).alloc (Nat.le_refl _) _
        have S0 : Hid (∀ o, SIn (wr.alloc o) (.slice at' tk.length ct) tk) := fun o => s0.later (BA.out o)
        have OA : Hid (∀ o, (wr.alloc o).ownsRow w.heap.size 9 1 u5 acc.length (acc.map encStr)) := fun o => QO.out.alloc o
        have WA : Hid (∀ o, Below w.heap.size w (wr.alloc o)) := fun o => QB.out.alloc QB.out.size o
        have TA : Hid (∀ o, Tl u5 (wr.alloc o)) := fun o => QT.out.alloc o
        by_cases hx : x ∈ tk
        · have hxd : decide (x ∈ tk) = true := decide_eq_true hx
          have ST : Hid (needStep x acc (tk, nk) = addAll acc nk) := Lib.hid (by unfold needStep; rw [if_pos hx])
          clear hx
          rcases s1.open with ⟨hnil, a2, c2, rfl⟩ | ⟨hp2, b2, off2, c2, rfl, hcap2, hlt2, hc2⟩
          · subst hnil
            clear s0 s1
            go_wp2_with fail
            refine (contains_of (S0.out _) x).mono ?_
            rintro e w' ⟨rfl, rfl⟩
            rw [hxd]
            go_wp2_with fail
            go_rounds 1
            go_roundw
            case rel =>
              refine ⟨k + 1, acc, by omega, by go_num, ?_, OA.out _, QS.out, by omega, WA.out _, TA.out _⟩
              rw [NK.out, ← HA.out, ST.out]; rfl
            case measure => simp [intOf]; omega
          · have SM := Lib.hid s1.small
            have HC2 : Hid (∀ W, Below w.heap.size w W → ∀ m, m < nk.length → W.cell? ⟨b2, off2 + m, none⟩ = some (.string (bs (nk.getD m [])))) := fun W hW m hm => by
              rcases (SW.out.later hW).open with ⟨e0, _⟩ | ⟨_, b3, off3, c3, e3, _, _, h3⟩
              · rw [e0] at hm; exact absurd hm (Nat.not_lt_zero _)
              · cases e3; exact h3 m hm
            have AT : Hid (∀ m, m < nk.length → addAll acc (nk.take (m + 1)) = addN (addAll acc (nk.take m)) (nk.getD m [])) := fun m hm => addAll_take hm
            have AE : Hid (addAll acc (nk.take nk.length) = addAll acc nk) := Lib.hid (by rw [List.take_length])
            have MM : Hid (∀ m, m < nk.length → (nk.getD m []).length ≤ 9223372036854775807) := fun m hm => SM.out _ (getD_mem hm)
            have MS : Hid (∀ m, m < nk.length → (bs (nk.getD m [])).size ≤ 4294967296) := fun m hm => by rw [bs_size]; exact HK.out _ (getD_mem hm)
            clear s0 s1 hc2
            generalize hln : nk.length = ln at *
            clear hln
            go_wp2_with fail
            refine (contains_of (S0.out _) x).mono ?_
            rintro e w' ⟨rfl, rfl⟩
            rw [hxd]
            go_wp2_with fail
            go_loopw [5, 24] (fun o i wi => ∃ (m : Nat) (ac : List Str), m ≤ ln ∧ i = .int .i64 (m : Int) ∧ ac = addAll acc (nk.take m) ∧ SO w.heap.size o ac wi ∧ (∀ y ∈ ac, y.length ≤ 9223372036854775807) ∧ ac.length ≤ 20 * k + m ∧ Below w.heap.size w wi ∧ Tl o wi) (fun _ i _ => ln - (intOf i).toNat)
            case atStart => exact ⟨0, acc, Nat.zero_le _, rfl, rfl, OA.out _, QS.out, ql, WA.out _, TA.out _⟩
            case round =>
              obtain ⟨m, ac, hm, rfl, ha2, qo2, qs2, ql2, qb2, qt2⟩ := hrel
              have QT2 := Lib.hid qt2; clear qt2
              have QO2 := Lib.hid qo2; have QS2 := Lib.hid qs2; have QB2 := Lib.hid qb2; have HA2 := Lib.hid ha2; clear qo2 qs2 qb2 ha2
              rename World => wi
              by_cases hml : m < ln
              · have d0 := HC2.out wi QB2.out m hml
                have AM := Lib.hid (AT.out m hml)
                have YM := Lib.hid (MM.out m hml)
                have YS := Lib.hid (MS.out m hml)
                generalize nk.getD m [] = y at *
                have I2 : Hid (SIn wi u5 ac) := SIn.own QO2.out (by omega) QS2.out
                by_cases hy : y ∈ ac
                · have hyd : decide (y ∈ ac) = true := decide_eq_true hy
                  have SY : Hid (addN ac y = ac) := Lib.hid (by unfold addN; rw [if_pos hy])
                  clear hy
                  go_wp2_with fail
                  refine (contains_of I2.out y).mono ?_
                  rintro e w' ⟨rfl, rfl⟩
                  rw [hyd]
                  go_wp2
                  go_roundw
                  case rel =>
                    refine ⟨m + 1, ac, by omega, by go_num, ?_, QO2.out, QS2.out, by omega, QB2.out, QT2.out⟩
                    rw [AM.out, ← HA2.out, SY.out]
                  case measure => simp [intOf]; omega
                · have hyd : decide (y ∈ ac) = false := decide_eq_false hy
                  have SY : Hid (addN ac y = ac ++ [y]) := Lib.hid (by unfold addN; rw [if_neg hy])
                  clear hy
                  have OA2 : Hid (∀ o, (wi.alloc o).ownsRow w.heap.size 9 1 u5 ac.length (ac.map encStr)) := fun o => QO2.out.alloc o
                  have SA2 : Hid (∀ o, w.heap.size ≤ (wi.alloc o).heap.size) := fun o => by have := QB2.out.size; simp; omega
                  have LT2 : Hid (∀ k, u5.ownBlock = some k → w.heap.size ≤ k) := fun k hk => (QO2.out.lt k hk).1
                  have TA2 : Hid (∀ o, Tl u5 (wi.alloc o)) := fun o => QT2.out.alloc o
                  have WA2 : Hid (∀ o, Below w.heap.size w (wi.alloc o)) := fun o => QB2.out.alloc QB2.out.size o
                  go_wp2_with fail
                  refine (contains_of I2.out y).mono ?_
                  rintro e w' ⟨rfl, hw'⟩
                  rw [hw', hyd]
                  clear hw'
                  go_wp2_with (at_builtin; go_must (refine wpList_append_tl _ rfl (.tmp 32) (.tmp 34) rfl w.heap.size i0 HI.out hz0 hz1 hz2 _ _ _ rfl (OA2.out _) (TA2.out _) ⟨wi.heap.size, 0, none⟩ 1 (bs y) rfl (cell_one' _ _ _) YS.out (by unfold maxLen; omega) (by omega) (SA2.out _) ?_; intro v4 w4 q1 q2 q3; have O4 := Lib.hid q1; have G4 := Lib.hid q2; have T4 := Lib.hid q3; clear q1 q2 q3))
                  go_roundw
                  case rel =>
                    refine ⟨m + 1, ac ++ [y], by omega, by go_num, ?_, SO.snoc O4.out, ?_, by simp; omega, (WA2.out _).grown G4.out (SA2.out _) LT2.out, T4.out⟩
                    · rw [AM.out, ← HA2.out, SY.out]
                    · intro q hq
                      rcases List.mem_append.1 hq with h | h
                      · exact QS2.out q h
                      · rw [List.mem_singleton] at h; rw [h]; exact YM.out
                  case measure => simp [intOf]; omega
              · obtain rfl : m = ln := by omega
                have A2 := HA2.out
                rw [AE.out, ← ST.out, HA.out, ← NK.out] at A2
                have HA3 := Lib.hid A2; clear A2
                go_wp2
                go_roundw
                case rel => exact ⟨k + 1, ac, by omega, by go_num, HA3.out, QO2.out, QS2.out, by omega, QB2.out, QT2.out⟩
                case measure => simp [intOf]; omega
        · have hxd : decide (x ∈ tk) = false := decide_eq_false hx
          have ST : Hid (needStep x acc (tk, nk) = acc) := Lib.hid (by unfold needStep; rw [if_neg hx])
          obtain ⟨a2, c2, rfl⟩ := s1.shape
          clear hx s0 s1
          go_wp2_with fail
          refine (contains_of (S0.out _) x).mono ?_
          rintro e w' ⟨rfl, rfl⟩
          rw [hxd]
          go_wp2
          go_roundw
          case rel =>
            refine ⟨k + 1, acc, by omega, by go_num, ?_, OA.out _, QS.out, by omega, WA.out _, TA.out _⟩
            rw [NK.out, ← HA.out, ST.out]
          case measure => simp [intOf]; omega
      · obtain rfl : k = L := by omega
        have A := HA.out
        rw [NE.out] at A
        subst A
        go_wp2
        go_ret
        exact ⟨_, rfl, QO.out, QS.out, by omega, QB.out, QT.out⟩
end Go.Proofs.Ytihiohohocfchaa
