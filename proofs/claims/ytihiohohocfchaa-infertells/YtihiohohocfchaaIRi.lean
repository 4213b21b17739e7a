/-
  The reference's InferFault. Condition: the strings have at most 2^63 - 1 bytes.
-/
import Derived.Test.YtihiohohocfchaaIRg
namespace Go.Proofs.Ytihiohohocfchaa
set_option maxRecDepth 100000
set_option linter.unusedVariables false
open Go.ChangeShapes Go.WideShapes Go.ChangeAt Go.RowKit

theorem take_pairs {l : List Mc} {k m : Nat} (hm : m < k) (hk : k ≤ l.length) : (l.take k).take (m + 1) = (l.take k).take m ++ [(nm l m, vl l m)] := by
  have hl : m < (l.take k).length := by rw [List.length_take]; omega
  rw [take_at hl]
  have e : (l.take k).getD m ([], []) = l.getD m ([], []) := by rw [List.getD, List.getD, List.getElem?_take_of_lt hm]
  unfold nm vl
  rw [e]
set_option maxHeartbeats 4000000 in
set_option maxRecDepth 100000 in
theorem rfault_any {w : World} {v : Value} {l : List Mc} (h : IIn w v l) :
    Calls Try.prog 9 #[v] w fun e w' => e = .returned (.int .i64 (infE l)) ∧ Below w.heap.size w w' := by
  have HS := Lib.hid h.2
  have hb := show l.length ≤ 8796093022208 by obtain ⟨⟨_, _, _, _, _, h4, _⟩, _⟩ := h; exact h4
  by_cases hL : 20 < l.length
  · have E := Lib.hid (infE_large hL)
    obtain ⟨⟨a, cap, rfl, _⟩, _⟩ := h
    clear HS
    generalize l.length = L at *
    go_enter Try.func9, Try.ntmps9
    go_wp2
    go_ret
    exact ⟨by rw [E.out]; rfl, Below.refl _ _⟩
  have HL : l.length ≤ 20 := by omega
  clear hL hb
  have EB : Hid (∀ k, k < l.length → goE l k = 0 → ∀ E, stepE (l.take k) (nm l k) (vl l k) = E → E ≠ 0 → infE l = E) := fun k hk h0 E hE hne => by subst hE; exact infE_bad HL hk h0 hne
  have EO : Hid (goE l l.length = 0 → infE l = 0) := fun h0 => infE_ok HL h0
  have ES : Hid (∀ k, k < l.length → goE l k = 0 → goE l (k + 1) = stepE (l.take k) (nm l k) (vl l k)) := fun k hk h0 => goE_step h0
  have TP : Hid (∀ k m, m < k → k ≤ l.length → (l.take k).take (m + 1) = (l.take k).take m ++ [(nm l m, vl l m)]) := fun k m h1 h2 => take_pairs h1 h2
  have TE : Hid (∀ k, k ≤ l.length → (l.take k).take k = l.take k) := fun k hk => List.take_of_length_le (by rw [List.length_take]; omega)
  have TM : Hid (∀ k m, m < k → k ≤ l.length → (nm l m, vl l m) ∈ l.take k) := fun k m h1 h2 => by
    have h3 : (nm l m, vl l m) ∈ (l.take k).take (m + 1) := by rw [take_pairs h1 h2]; simp
    exact List.mem_of_mem_take h3
  obtain ⟨⟨a, cap, rfl, hcap, _, _, h5⟩, _⟩ := h
  have HC : Hid (∀ W, Below w.heap.size w W → ∀ k, k < l.length → ∃ b off, a = some ⟨b, off, none⟩ ∧ W.cell? ⟨b, off + k * 2, none⟩ = some (.string (bs (nm l k))) ∧ W.cell? ⟨b, off + k * 2 + 1, none⟩ = some (.string (bs (vl l k)))) := fun W hW k hk => by
    rcases h5 with rfl | ⟨b, off, ha, hlt, hc⟩
    · exact absurd hk (Nat.not_lt_zero _)
    · have := hc k _ (at_some hk)
      exact ⟨b, off, ha, cell_later hW this.1, cell_later hW this.2⟩
  clear h5
  generalize eL : l.length = L at *
  clear eL
  go_enter Try.func9, Try.ntmps9
  go_wp2_with fail
  go_loopw [13] (fun i wr => ∃ k : Nat, k ≤ L ∧ i = .int .i64 (k : Int) ∧ goE l k = 0 ∧ Below w.heap.size w wr) (fun i _ => L - (intOf i).toNat)
  case atStart => exact ⟨0, Nat.zero_le _, rfl, rfl, Below.refl _ _⟩
  case round =>
    obtain ⟨k, hk, rfl, h0, qb⟩ := hrel
    have H0 := Lib.hid h0; have QB := Lib.hid qb; clear h0 qb
    by_cases hkl : k < L
    · obtain ⟨b, off, rfl, c0, c1⟩ := HC.out wr QB.out k hkl
      have B1 := Lib.hid (EB.out k hkl H0.out)
      have S1 := Lib.hid (ES.out k hkl H0.out)
      obtain ⟨l1, l2⟩ := HS.out k hkl
      have F1 := Lib.hid (fun W => rsuf_any (nm l k) W (by unfold maxLen at l1; omega))
      have F2 := Lib.hid (fun W => rsuf_any (vl l k) W (by unfold maxLen at l2; omega))
      have TPk := Lib.hid (fun m hm => TP.out k m hm hk)
      have TMk := Lib.hid (fun m hm => TM.out k m hm hk)
      have TEk := Lib.hid (TE.out k hk)
      generalize nm l k = x at *
      generalize vl l k = y at *
      clear l1 l2
      have K0 := Lib.hid (blk_new wr #[.string (bs x), .string (bs y)] 47)
      have WA : Hid (Below w.heap.size w (wr.alloc (.cells #[.string (bs x), .string (bs y)] 47))) := QB.out.alloc QB.out.size _
      have d0 := K0.out.cell (i := 0) rfl
      have d1 := K0.out.cell (i := 1) rfl
      cases hx : sufB x
      · have E3 := Lib.hid (B1.out 3 (stepE_suf (.inl hx)) (by decide))
        rw [hx] at F1
        clear hx
        go_wp2_with fail
        refine (F1.out _).mono ?_
        rintro e w2 ⟨rfl, rfl⟩
        go_wp2
        go_ret
        exact ⟨by rw [E3.out]; rfl, WA.out⟩
      · have HX := Lib.hid hx
        rw [hx] at F1
        clear hx
        cases hy : sufB y
        · have E3 := Lib.hid (B1.out 3 (stepE_suf (.inr hy)) (by decide))
          rw [hy] at F2
          clear hy
          go_wp2_with fail
          refine (F1.out _).mono ?_
          rintro e w2 ⟨rfl, rfl⟩
          go_wp2_with fail
          refine (F2.out _).mono ?_
          rintro e w2 ⟨rfl, rfl⟩
          go_wp2
          go_ret
          exact ⟨by rw [E3.out]; rfl, WA.out⟩
        · have HY := Lib.hid hy
          rw [hy] at F2
          clear hy
          have i1 : (0 : Int) ≤ (k : Int) := by omega
          have i2 : (k : Int) ≤ (L : Int) := by omega
          have i3 : (k : Int) ≤ (cap : Int) := by omega
          go_wp2_with fail
          refine (F1.out _).mono ?_
          rintro e w2 ⟨rfl, rfl⟩
          go_wp2_with fail
          refine (F2.out _).mono ?_
          rintro e w2 ⟨rfl, hw2⟩
          rw [hw2]
          clear hw2
          have hk2 : k ≤ 20 := by omega
          generalize hP : l.take k = P at *
          obtain ⟨w3, hw3⟩ : ∃ w3, w3 = wr.alloc (.cells #[.string (bs x), .string (bs y)] 47) := ⟨_, rfl⟩
          rw [← hw3] at d0 d1 K0 WA ⊢
          have N3 : Hid (wr.heap.size < w3.heap.size) := Lib.hid (by rw [hw3]; simp)
          clear hw3
          go_wp2_with fail
          go_loopw [34] (fun i wj => ∃ m : Nat, m ≤ k ∧ i = .int .i64 (m : Int) ∧ (x, y) ∉ P.take m ∧ Below w3.heap.size w3 wj) (fun i _ => k - (intOf i).toNat)
          case atStart => exact ⟨0, Nat.zero_le _, rfl, by simp, Below.refl _ _⟩
          case round =>
            obtain ⟨m, hm, rfl, hno, qj⟩ := hrel
            have NO := Lib.hid hno; have QJ := Lib.hid qj; clear hno qj
            rename World => wj
            have WJ := Lib.hid (WA.out.trans (QJ.out.mono WA.out.size))
            have KJ := Lib.hid (K0.out.later QJ.out)
            clear d0 d1
            by_cases hmk : m < k
            · obtain ⟨b', off', e4, p0, p1⟩ := HC.out wj WJ.out m (by omega)
              cases e4
              have T1 := Lib.hid (TPk.out m hmk)
              have M1 := Lib.hid (TMk.out m hmk)
              generalize nm l m = p at *
              generalize vl l m = q at *
              have BA : Below wj.heap.size wj (wj.alloc (.cells #[.string (bs p), .string (bs q)] 47)) := (Below.refl _ _).alloc (Nat.le_refl _) _
              have K5 := blk_new wj #[.string (bs p), .string (bs q)] 47
              have K6 := KJ.out.later BA
              have WQ := Lib.hid (QJ.out.trans (BA.mono QJ.out.size))
              have WF := Lib.hid (WJ.out.trans (BA.mono WJ.out.size))
              have d0 := K6.cell (i := 0) rfl
              have d1 := K6.cell (i := 1) rfl
              have d2 := K5.cell (i := 0) rfl
              have d3 := K5.cell (i := 1) rfl
              clear BA K5 K6
              have e1 : ((bs x).toList == (bs p).toList) = decide (x = p) := by rw [bs_toList, bs_toList, beq_dec]
              have e2 : ((bs y).toList == (bs q).toList) = decide (y = q) := by rw [bs_toList, bs_toList, beq_dec]
              by_cases hxp : x = p
              · rw [decide_eq_true hxp] at e1
                by_cases hyq : y = q
                · rw [decide_eq_true hyq] at e2
                  have E6 := Lib.hid (B1.out 6 (stepE_two HX.out HY.out (.inr (by rw [hxp, hyq]; exact M1.out))) (by decide))
                  clear hxp hyq
                  go_wp2
                  go_ret
                  exact ⟨by rw [E6.out]; rfl, WF.out⟩
                · rw [decide_eq_false hyq] at e2
                  have NX : Hid ((x, y) ∉ P.take (m + 1)) := by
                    show _ ∉ _
                    rw [T1.out]
                    intro hm
                    rcases List.mem_append.1 hm with hm | hm
                    · exact NO.out hm
                    · rw [List.mem_singleton] at hm; injection hm with h1 h2; exact hyq h2
                  clear hxp hyq
                  go_wp2
                  go_roundw
                  case rel => exact ⟨m + 1, by omega, by go_num, NX.out, WQ.out⟩
                  case measure => simp [intOf]; omega
              · rw [decide_eq_false hxp] at e1
                have NX : Hid ((x, y) ∉ P.take (m + 1)) := by
                  show _ ∉ _
                  rw [T1.out]
                  intro hm
                  rcases List.mem_append.1 hm with hm | hm
                  · exact NO.out hm
                  · rw [List.mem_singleton] at hm; injection hm with h1 h2; exact hxp h1
                clear hxp
                go_wp2
                go_roundw
                case rel => exact ⟨m + 1, by omega, by go_num, NX.out, WQ.out⟩
                case measure => simp [intOf]; omega
            · obtain rfl : m = k := by omega
              have NP := NO.out
              rw [TEk.out] at NP
              have HN := Lib.hid NP
              clear NP NO
              have d0 := KJ.out.cell (i := 0) rfl
              have d1 := KJ.out.cell (i := 1) rfl
              by_cases hxy : x = y
              · have e1 : ((bs x).toList == (bs y).toList) = true := by rw [bs_toList, bs_toList, beq_dec, decide_eq_true hxy]
                have E6 := Lib.hid (B1.out 6 (stepE_two HX.out HY.out (.inl hxy)) (by decide))
                clear hxy
                go_wp2
                go_ret
                exact ⟨by rw [E6.out]; rfl, WJ.out⟩
              · have e1 : ((bs x).toList == (bs y).toList) = false := by rw [bs_toList, bs_toList, beq_dec, decide_eq_false hxy]
                have HG : Hid (goE l (m + 1) = 0) := Lib.hid (by rw [S1.out]; exact stepE_ok HX.out HY.out (fun h => h.elim hxy HN.out))
                clear hxy
                go_wp2
                go_roundw
                case rel => exact ⟨m + 1, by omega, by go_num, HG.out, WJ.out⟩
                case measure => simp [intOf]; omega
    · obtain rfl : k = L := by omega
      have E := Lib.hid (EO.out H0.out)
      go_wp2
      go_ret
      exact ⟨by rw [E.out]; rfl, QB.out⟩
end Go.Proofs.Ytihiohohocfchaa
