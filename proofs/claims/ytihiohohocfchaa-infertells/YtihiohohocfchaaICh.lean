/-
  Package infer: Check. Condition: the strings have at most 2^63 - 1 bytes.
-/
import Derived.Test.YtihiohohocfchaaICk
import Derived.Deep.RegionHeld3
namespace Go.Proofs.Ytihiohohocfchaa
set_option maxRecDepth 100000
set_option linter.unusedVariables false
open Go.ChangeShapes Go.WideShapes Go.ChangeAt Go.RowKit

/-- a slice of inferences -/
def IIn (w : World) (v : Value) (l : List Mc) : Prop := McIn w v l ∧ ∀ k, k < l.length → (nm l k).length ≤ maxLen ∧ (vl l k).length ≤ maxLen
theorem IIn.later {w w' : World} {v : Value} {l : List Mc} (h : IIn w v l) (hb : Below w.heap.size w w') : IIn w' v l := ⟨h.1.later hb, h.2⟩
theorem mc_take {w : World} {a : Option Addr} {n cap k : Nat} {l : List Mc} (h : McIn w (.slice a n cap) l) (hk : k ≤ l.length) : McIn w (.slice a k cap) (l.take k) := by
  obtain ⟨a', cap', he, h2, h3, h4, h5⟩ := h
  injection he with e1 e2 e3
  subst e1 e3
  have hl : (l.take k).length = k := by rw [List.length_take]; omega
  refine ⟨a, cap, by rw [hl], by rw [hl]; omega, h3, by rw [hl]; omega, ?_⟩
  rcases h5 with h5 | ⟨b, off, h5, h6, h7⟩
  · left; rw [h5]; exact List.take_nil
  · refine .inr ⟨b, off, h5, h6, fun j x hj => h7 j x ?_⟩
    have hj' : j < k := by
      rcases Nat.lt_or_ge j k with h' | h'
      · exact h'
      · rw [List.getElem?_eq_none (by rw [hl]; exact h')] at hj; cases hj
    rw [List.getElem?_take_of_lt hj'] at hj
    exact hj
set_option maxHeartbeats 4000000 in
theorem icheck_any {w : World} {v : Value} {l : List Mc} (h : IIn w v l) :
    Calls Try.prog 10 #[v] w fun e w' => e = .returned (.int .i64 (infE l)) ∧ Below w.heap.size w w' := by
  have HM := Lib.hid h.1
  have HS := Lib.hid h.2
  have hb := show l.length ≤ 8796093022208 by obtain ⟨⟨_, _, _, _, _, h4, _⟩, _⟩ := h; exact h4
  by_cases hL : 20 < l.length
  · have E := Lib.hid (infE_large hL)
    obtain ⟨⟨a, cap, rfl, _⟩, _⟩ := h
    clear HM HS
    generalize l.length = L at *
    go_enter Try.func10, Try.ntmps10
    go_wp2
    go_ret
    exact ⟨by rw [E.out]; rfl, Below.refl _ _⟩
  have HL : l.length ≤ 20 := by omega
  clear hL hb
  have EB : Hid (∀ k, k < l.length → goE l k = 0 → ∀ E, stepE (l.take k) (nm l k) (vl l k) = E → E ≠ 0 → infE l = E) := fun k hk h0 E hE hne => by subst hE; exact infE_bad HL hk h0 hne
  have EO : Hid (goE l l.length = 0 → infE l = 0) := fun h0 => infE_ok HL h0
  have ES : Hid (∀ k, k < l.length → goE l k = 0 → goE l (k + 1) = stepE (l.take k) (nm l k) (vl l k)) := fun k hk h0 => goE_step h0
  obtain ⟨⟨a, cap, rfl, hcap, _, _, h5⟩, _⟩ := h
  have HC : Hid (∀ W, Below w.heap.size w W → ∀ k, k < l.length → ∃ b off, a = some ⟨b, off, none⟩ ∧ W.cell? ⟨b, off + k * 2, none⟩ = some (.string (bs (nm l k))) ∧ W.cell? ⟨b, off + k * 2 + 1, none⟩ = some (.string (bs (vl l k)))) := fun W hW k hk => by
    rcases h5 with rfl | ⟨b, off, ha, hlt, hc⟩
    · exact absurd hk (Nat.not_lt_zero _)
    · have := hc k _ (at_some hk)
      exact ⟨b, off, ha, cell_later hW this.1, cell_later hW this.2⟩
  clear h5
  have TK : Hid (∀ W, Below w.heap.size w W → ∀ k, k ≤ l.length → McIn W (.slice a k cap) (l.take k)) := fun W hW k hk => mc_take (HM.out.later hW) hk
  generalize eL : l.length = L at *
  clear HM eL
  go_enter Try.func10, Try.ntmps10
  go_wp2_with fail
  go_loopw [10] (fun i wr => ∃ k : Nat, k ≤ L ∧ i = .int .i64 (k : Int) ∧ goE l k = 0 ∧ Below w.heap.size w wr) (fun i _ => L - (intOf i).toNat)
  case atStart => exact ⟨0, Nat.zero_le _, rfl, rfl, Below.refl _ _⟩
  case round =>
    obtain ⟨k, hk, rfl, h0, qb⟩ := hrel
    have H0 := Lib.hid h0; have QB := Lib.hid qb; clear h0 qb
    by_cases hkl : k < L
    · obtain ⟨b, off, rfl, c0, c1⟩ := HC.out wr QB.out k hkl
      have B1 := Lib.hid (EB.out k hkl H0.out)
      have S1 := Lib.hid (ES.out k hkl H0.out)
      obtain ⟨l1, l2⟩ := HS.out k hkl
      have F1 := Lib.hid (fun W => suf_any (nm l k) W (by unfold maxLen at l1; omega))
      have F2 := Lib.hid (fun W => suf_any (vl l k) W (by unfold maxLen at l2; omega))
      have T1 : Hid (∀ W, Below w.heap.size w W → Calls Try.prog 37 #[.slice (some ⟨b, off, none⟩) k cap, .agg #[.string (bs (nm l k)), .string (bs (vl l k))]] W fun e w' => e = .returned (.bool ((l.take k).contains (nm l k, vl l k))) ∧ Below W.heap.size W w') := fun W hW => conI_any (l.take k) _ _ _ W (TK.out W hW k (by omega))
      have CD : Hid ((l.take k).contains (nm l k, vl l k) = true ↔ (nm l k, vl l k) ∈ l.take k) := List.contains_iff_mem
      generalize nm l k = x at *
      generalize vl l k = y at *
      generalize l.take k = P at *
      generalize P.contains (x, y) = q at *
      clear l1 l2
      have K0 := Lib.hid (blk_new wr #[.string (bs x), .string (bs y)] 47)
      have WA : Hid (Below w.heap.size w (wr.alloc (.cells #[.string (bs x), .string (bs y)] 47))) := QB.out.alloc QB.out.size _
      have d0 := K0.out.cell (i := 0) rfl
      have d1 := K0.out.cell (i := 1) rfl
      go_wp2_with fail
      refine (F1.out _).mono ?_
      rintro e w2 ⟨rfl, b2⟩
      have B2 := Lib.hid (WA.out.trans (b2.mono WA.out.size))
      have K2 := Lib.hid (K0.out.later b2)
      clear b2 d0 d1 c0 c1
      obtain ⟨d0, d1⟩ := show _ ∧ _ from ⟨K2.out.cell (i := 0) rfl, K2.out.cell (i := 1) rfl⟩
      cases hx : sufB x
      · have E3 := Lib.hid (B1.out 3 (stepE_suf (.inl hx)) (by decide))
        clear hx
        go_wp2
        go_ret
        exact ⟨by rw [E3.out]; rfl, B2.out⟩
      · have HX := Lib.hid hx; clear hx
        go_wp2_with fail
        refine (F2.out _).mono ?_
        rintro e w3 ⟨rfl, b3⟩
        have B3 := Lib.hid (B2.out.trans (b3.mono B2.out.size))
        have K3 := Lib.hid (K2.out.later b3)
        clear b3 d0 d1
        obtain ⟨d0, d1⟩ := show _ ∧ _ from ⟨K3.out.cell (i := 0) rfl, K3.out.cell (i := 1) rfl⟩
        cases hy : sufB y
        · have E3 := Lib.hid (B1.out 3 (stepE_suf (.inr hy)) (by decide))
          clear hy
          go_wp2
          go_ret
          exact ⟨by rw [E3.out]; rfl, B3.out⟩
        · have HY := Lib.hid hy; clear hy
          by_cases hxy : x = y
          · have E6 := Lib.hid (B1.out 6 (stepE_two HX.out HY.out (.inl hxy)) (by decide))
            have e1 : ((bs x).toList == (bs y).toList) = true := by rw [bs_toList, bs_toList, beq_dec, decide_eq_true hxy]
            clear hxy
            go_wp2_with fail
            go_quiet (fail)
            go_wp2
            go_ret
            exact ⟨by rw [E6.out]; rfl, below_drewN B3.out _⟩
          · have e1 : ((bs x).toList == (bs y).toList) = false := by rw [bs_toList, bs_toList, beq_dec, decide_eq_false hxy]
            have NE := Lib.hid hxy; clear hxy
            have i1 : (0 : Int) ≤ (k : Int) := by omega
            have i2 : (k : Int) ≤ (L : Int) := by omega
            have i3 : (k : Int) ≤ (cap : Int) := by omega
            have SL : Hid (∀ W, Below w3.heap.size w3 W → W.cell? ⟨wr.heap.size, 0, none⟩ = some (.string (bs x)) ∧ W.cell? ⟨wr.heap.size, 1, none⟩ = some (.string (bs y))) := fun W hW => by
              have := K3.out.later hW
              exact ⟨this.cell (i := 0) rfl, this.cell (i := 1) rfl⟩
            go_wp2_with fail
            go_region_held3 (fun w' => w'.cell? ⟨wr.heap.size, 0, none⟩ = some (.string (bs x)) ∧ w'.cell? ⟨wr.heap.size, 1, none⟩ = some (.string (bs y))) (first | exact ⟨d0, d1⟩ | exact ⟨k0, k1⟩ | assumption | go_keep) (first
              | (go_at_call_of 37 (Value.slice (some ⟨b, off, none⟩) k cap)
                 refine (T1.out w3.drew B3.out.drew).mono ?_
                 rintro e w4 ⟨rfl, b4⟩
                 have B4 : Hid (Below w3.heap.size w3 w4) := (Below.refl _ _).drew.trans b4
                 obtain ⟨k0, k1⟩ := SL.out _ B4.out
                 clear b4))
            all_goals
              have B5 := Lib.hid (B3.out.trans (B4.out.mono B3.out.size))
              have C5 := Lib.hid CD.out
              clear CD T1
              cases hc : q
              · subst hc
                have NX : Hid (¬ (x = y ∨ (x, y) ∈ P)) := fun h => h.elim NE.out (fun h => by cases C5.out.2 h)
                go_wp2
                go_roundw
                case rel => exact ⟨k + 1, by omega, by go_num, by rw [S1.out]; exact stepE_ok HX.out HY.out NX.out, B5.out⟩
                case measure => simp [intOf]; omega
              · subst hc
                have E6 := Lib.hid (B1.out 6 (stepE_two HX.out HY.out (.inr (C5.out.1 rfl))) (by decide))
                go_wp2
                go_ret
                exact ⟨by rw [E6.out]; rfl, B5.out⟩
    · obtain rfl : k = L := by omega
      have E := Lib.hid (EO.out H0.out)
      go_wp2
      go_ret
      exact ⟨by rw [E.out]; rfl, QB.out⟩
end Go.Proofs.Ytihiohohocfchaa
