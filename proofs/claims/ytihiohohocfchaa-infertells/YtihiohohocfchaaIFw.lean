/-
  The law InferFirst, walked. No condition beyond the form's own.
-/
import Derived.Test.YtihiohohocfchaaIOf
import Derived.Test.YtihiohohocfchaaMGood
namespace Go.Proofs.Ytihiohohocfchaa
set_option maxRecDepth 100000
set_option linter.unusedVariables false
open Go.ChangeShapes Go.WideShapes Go.ChangeAt Go.RowKit

theorem ofR_ao : ofR [([46, 99], [46, 111])] [[97, 46, 99]] [97, 46, 111] = (some [97, 46, 99], 0) := by
  rw [ofR_ok (by decide) (by decide) (by decide), stm_ao.1, stm_ao.2]
  rfl
set_option maxHeartbeats 1000000 in
theorem infers_true (w : World) : Calls Try.prog 15 #[] w fun e w' => e = .returned (.bool true) ∧ Below w.heap.size w w' := by
  have B2 : Hid (Below w.heap.size w ((w.alloc (.cells #[.string (bs [46, 99]), .string (bs [46, 111])] 47)).alloc (.cells #[.string (bs [97, 46, 99])] 9))) := ((Below.refl _ w).alloc (Nat.le_refl _) _).alloc (by simp) _
  have SI : SIn ((w.alloc (.cells #[.string (bs [46, 99]), .string (bs [46, 111])] 47)).alloc (.cells #[.string (bs [97, 46, 99])] 9)) (.slice (some ⟨w.heap.size + 1, 0, none⟩) 1 1) [[97, 46, 99]] := by
    refine ⟨_, _, rfl, by simp, by simp, by simp, .inr ⟨_, 0, rfl, by simp, fun k hk => ?_⟩⟩
    match k, hk with
    | 0, _ => simp
  have OF := Lib.hid (of_any ((in_ao w).later ((Below.refl _ _).alloc (Nat.le_refl _) _)) SI [97, 46, 111] (by decide))
  rw [ofR_ao] at OF
  have e1 : ((bs [97, 46, 99]).toList == [97, 46, 99]) = true := by rw [bs_toList]; decide
  clear SI
  go_enter Try.func15, Try.ntmps15
  go_wp2_with fail
  refine OF.out.mono ?_
  rintro e w3 ⟨rfl, b3⟩
  have B3 := Lib.hid (B2.out.trans (b3.mono B2.out.size))
  clear b3
  have e2 : ofS (some [97, 46, 99]) = [97, 46, 99] := rfl
  rw [e2]
  go_wp2
  go_ret
  exact ⟨rfl, B3.out⟩
theorem ofR_bad {l : List Mc} {T : List Str} {s : Str} (h : (ofR l T s).2 ≠ 0) : (ofR l T s).1 = none := by
  unfold ofR at h ⊢
  split
  · rfl
  · split
    · rfl
    · split
      · rfl
      · rename_i h1 h2 h3
        rw [if_neg h1, if_neg h2, if_neg h3] at h
        exact absurd rfl h
theorem ofR_zero {l : List Mc} {T : List Str} {s : Str} (h : (ofR l T s).2 = 0) : infE l = 0 ∧ T.all good = true ∧ good s = true := by
  unfold ofR at h
  split at h
  · rename_i h1; exact absurd h h1
  · split at h
    · cases h
    · split at h
      · cases h
      · rename_i h1 h2 h3
        exact ⟨by simpa using h1, by simpa using h2, by simpa using h3⟩
theorem mc_drop {w : World} {a : Option Addr} {n cap k : Nat} {l : List Mc} (h : McIn w (.slice a n cap) l) (hk : k < l.length) : ∃ b off, a = some ⟨b, off, none⟩ ∧ McIn w (.slice (some ⟨b, off + k * 2, none⟩) (n - k) (cap - k)) (l.drop k) := by
  obtain ⟨a', cap', he, h2, h3, h4, h5⟩ := h
  injection he with e1 e2 e3
  subst e1 e2 e3
  rcases h5 with h5 | ⟨b, off, h5, h6, h7⟩
  · rw [h5] at hk; exact absurd hk (Nat.not_lt_zero _)
  · refine ⟨b, off, h5, some ⟨b, off + k * 2, none⟩, cap - k, by rw [List.length_drop], by rw [List.length_drop]; omega, by omega, by rw [List.length_drop]; omega, .inr ⟨b, off + k * 2, rfl, h6, fun j x hj => ?_⟩⟩
    rw [List.getElem?_drop] at hj
    have := h7 _ _ hj
    rw [show off + (k + j) * 2 = off + k * 2 + j * 2 by omega] at this
    exact this
theorem mc_none (w : World) (a : Option Addr) (cap : Nat) (h : cap ≤ maxLen) : McIn w (.slice a 0 cap) [] := ⟨a, cap, rfl, Nat.zero_le _, h, Nat.zero_le _, .inl rfl⟩
set_option maxHeartbeats 4000000 in
theorem walkFirst {w : World} {v u : Value} {l : List Mc} {T : List Str} (h : IIn w v l) (hk : SIn w u T) (S : ByteArray) (hs : S.size ≤ 9223372036854775807) (i : Int) :
    Calls Try.prog 5 #[v, u, .string S, .int .i64 i] w fun e w' => e = .returned (.bool true) ∧ Below w.heap.size w w' := by
  obtain ⟨s, rfl⟩ : ∃ s, S = bs s := ⟨_, (bs_of S).symm⟩
  rw [bs_size] at hs
  have OF : Hid (∀ W, Below w.heap.size w W → Calls Try.prog 6 #[v, u, .string (bs s)] W (OfPost (ofR l T s) W)) := fun W hW => of_any (h.later hW) (hk.later hW) s hs
  have OG : Hid (∀ W, Below w.heap.size w W → ∀ v' l', McIn w v' l' → (∀ x ∈ l', x ∈ l) → Calls Try.prog 6 #[v', u, .string (bs s)] W (OfPost (ofR l' T s) W)) := fun W hW v' l' h' hm => by
    refine of_any ⟨h'.later hW, fun k hk' => ?_⟩ (hk.later hW) s hs
    obtain ⟨j, hj, e⟩ := List.getElem_of_mem (hm _ (mem_at hk'))
    have := h.2 j hj
    have e2 := at_some hj
    rw [List.getElem?_eq_getElem hj, e] at e2
    injection e2 with e2
    injection e2 with e3 e4
    rw [e3, e4]
    exact this
  have HM := Lib.hid h.1
  have hb := show l.length ≤ 8796093022208 by obtain ⟨⟨_, _, _, _, _, h4, _⟩, _⟩ := h; exact h4
  obtain ⟨⟨a, cap, rfl, hcap, hmax, _, h5⟩, _⟩ := h
  have LM := Lib.hid hmax
  obtain ⟨au, cu, rfl⟩ := hk.shape
  clear hk hs
  generalize T.length = n at *
  go_enter Try.func5, Try.ntmps5
  go_wp2_with fail
  refine (infers_true w).mono ?_
  rintro e w1 ⟨rfl, b1⟩
  have B1 := Lib.hid b1; clear b1
  go_wp2_with fail
  refine (OF.out w1 B1.out).mono ?_
  rintro e w2 ⟨rfl, b2⟩
  have B2 := Lib.hid (B1.out.trans (b2.mono B1.out.size)); clear b2
  by_cases h0 : (ofR l T s).2 = 0
  · obtain ⟨z1, z2, z3⟩ := ofR_zero h0
    have OE := ofR_ok z1 z2 z3
    by_cases hi : 0 ≤ i ∧ i ≤ (l.length : Int)
    · obtain ⟨m, rfl⟩ : ∃ m : Nat, i = (m : Int) := ⟨i.toNat, by omega⟩
      have hm : m ≤ l.length := by omega
      have MT := Lib.hid (mc_take HM.out hm)
      have O1 := Lib.hid (fun W hW => OG.out W hW _ _ MT.out (fun x hx => List.mem_of_mem_take hx))
      have E1 := ofR_ok (infE_take z1 m) z2 z3
      have E2 := ofR_ok (infE_drop z1 m) z2 z3
      have IA := inf1_app (l.take m) (l.drop m) T (stm s) (sfx s)
      rw [List.take_append_drop] at IA
      rw [OE]
      rw [E1] at O1
      have i1 : ¬ (m : Int) < 0 := by omega
      have i2 : (m : Int) ≤ (l.length : Int) := by omega
      have i3 : ¬ (l.length : Int) < (m : Int) := by omega
      have i4 : (m : Int) ≤ (cap : Int) := by omega
      have i5 : (0 : Int) ≤ (m : Int) := by omega
      have i6 : (l.length : Int) ≤ (cap : Int) := by omega
      by_cases hm2 : m < l.length
      · obtain ⟨b, off, rfl, MD⟩ := mc_drop HM.out hm2
        have O2 := Lib.hid (fun W hW => OG.out W hW _ _ MD (fun x hx => List.mem_of_mem_drop hx))
        rw [E2] at O2
        clear MD OG OF E1 E2 OE h5 z1 z2 z3 hb
        generalize inf1 (l.take m) T (stm s) (sfx s) = o1 at *
        generalize inf1 (l.drop m) T (stm s) (sfx s) = o2 at *
        generalize inf1 l T (stm s) (sfx s) = o at *
        subst IA
        generalize l.length = L at *
        go_wp2_with fail
        refine (O1.out _ B2.out).mono ?_
        rintro e w3 ⟨rfl, b3⟩
        have B3 := Lib.hid (B2.out.trans (b3.mono B2.out.size)); clear b3
        go_wp2_with fail
        refine (O2.out _ B3.out).mono ?_
        rintro e w4 ⟨rfl, b4⟩
        have B4 := Lib.hid (B3.out.trans (b4.mono B3.out.size)); clear b4
        go_wp2_with fail
        refine (good_any w4.heap.size 0 0 _ (by simp) (by simp)).mono ?_
        rintro e w5 ⟨rfl, rfl⟩
        have e00 : decide ((0 : Int) = 0 ∧ (0 : Int) = 0) = true := by decide
        rw [e00]
        have B5 : Hid (Below w.heap.size w (w4.alloc (.cells #[.int .i64 0, .int .i64 0] 25))) := B4.out.alloc B4.out.size _
        cases o1 with
        | some x =>
          have e1 : (some x).or o2 = some x := rfl
          have e2 : ofS (some x) = x := rfl
          have e3 : ((bs x).toList == (bs x).toList) = true := by simp
          rw [e1, e2]
          go_wp2
          go_ret
          exact ⟨rfl, B5.out⟩
        | none =>
          have e1 : none.or o2 = o2 := by cases o2 <;> rfl
          rw [e1]
          generalize ofS o2 = y at *
          generalize o2.isSome = q at *
          have e3 : ((bs y).toList == (bs y).toList) = true := by simp
          go_wp2
          go_ret
          exact ⟨rfl, B5.out⟩
      · obtain rfl : m = l.length := by omega
        have E3 : l.drop l.length = [] := List.drop_length
        rw [E3] at E2 IA
        have O2 := Lib.hid (fun W hW A c (hc : c ≤ maxLen) => OG.out W hW (.slice A 0 c) [] (mc_none w A c hc) (fun x hx => absurd hx List.not_mem_nil))
        have e5 : inf1 [] T (stm s) (sfx s) = none := rfl
        rw [E2, e5] at O2
        rw [e5] at IA
        have i7 : (l.length : Int) - (l.length : Int) = 0 := by omega
        clear OG OF E1 E2 E3 OE h5 z1 z2 z3 hb
        generalize inf1 (l.take l.length) T (stm s) (sfx s) = o1 at *
        generalize inf1 l T (stm s) (sfx s) = o at *
        subst IA
        generalize l.length = L at *
        have i8 : decide ((L : Int) < 0) = false := decide_eq_false (by omega)
        by_cases hc : cap = L
        · subst hc
          go_wp2_with fail
          refine (O1.out _ B2.out).mono ?_
          rintro e w3 ⟨rfl, b3⟩
          have B3 := Lib.hid (B2.out.trans (b3.mono B2.out.size)); clear b3
          go_wp2_with fail
          refine (O2.out _ B3.out _ _ (Nat.zero_le _)).mono ?_
          rintro e w4 ⟨rfl, b4⟩
          have B4 := Lib.hid (B3.out.trans (b4.mono B3.out.size)); clear b4
          go_wp2_with fail
          refine (good_any w4.heap.size 0 0 _ (by simp) (by simp)).mono ?_
          rintro e w5 ⟨rfl, rfl⟩
          have e00 : decide ((0 : Int) = 0 ∧ (0 : Int) = 0) = true := by decide
          rw [e00]
          have B5 : Hid (Below w.heap.size w (w4.alloc (.cells #[.int .i64 0, .int .i64 0] 25))) := B4.out.alloc B4.out.size _
          cases o1 with
          | some x =>
            have e2 : ofS (some x) = x := rfl
            have e3 : ((bs x).toList == (bs x).toList) = true := by simp
            rw [e2]
            go_wp2
            go_ret
            exact ⟨rfl, B5.out⟩
          | none =>
            have e2 : ofS none = [] := rfl
            have e3 : ((bs []).toList == (bs []).toList) = true := by simp
            rw [e2]
            go_wp2
            go_ret
            exact ⟨rfl, B5.out⟩
        · go_wp2_with fail
          refine (O1.out _ B2.out).mono ?_
          rintro e w3 ⟨rfl, b3⟩
          have B3 := Lib.hid (B2.out.trans (b3.mono B2.out.size)); clear b3
          go_wp2_with fail
          refine (O2.out _ B3.out _ _ (Nat.le_trans (Nat.sub_le _ _) LM.out)).mono ?_
          rintro e w4 ⟨rfl, b4⟩
          have B4 := Lib.hid (B3.out.trans (b4.mono B3.out.size)); clear b4
          go_wp2_with fail
          refine (good_any w4.heap.size 0 0 _ (by simp) (by simp)).mono ?_
          rintro e w5 ⟨rfl, rfl⟩
          have e00 : decide ((0 : Int) = 0 ∧ (0 : Int) = 0) = true := by decide
          rw [e00]
          have B5 : Hid (Below w.heap.size w (w4.alloc (.cells #[.int .i64 0, .int .i64 0] 25))) := B4.out.alloc B4.out.size _
          cases o1 with
          | some x =>
            have e2 : ofS (some x) = x := rfl
            have e3 : ((bs x).toList == (bs x).toList) = true := by simp
            rw [e2]
            go_wp2
            go_ret
            exact ⟨rfl, B5.out⟩
          | none =>
            have e2 : ofS none = [] := rfl
            have e3 : ((bs []).toList == (bs []).toList) = true := by simp
            rw [e2]
            go_wp2
            go_ret
            exact ⟨rfl, B5.out⟩
    · have R := Lib.hid (show i < 0 ∨ (0 ≤ i ∧ (l.length : Int) < i) by omega)
      rw [OE]
      generalize inf1 l T (stm s) (sfx s) = o at *
      clear h5 hi OE OG z1 z2 z3 hb HM
      generalize l.length = L at *
      rcases R.out with r | ⟨r, r2⟩
      · go_wp2
        go_ret
        exact ⟨rfl, B2.out⟩
      · have r3 : ¬ i < 0 := by omega
        go_wp2
        go_ret
        exact ⟨rfl, B2.out⟩
  · have E := ofR_bad h0
    rw [E]
    generalize (ofR l T s).2 = x at *
    have hne : (x != 0) = true := by rw [bne_iff_ne]; exact h0
    have heq : (x == 0) = false := by rw [beq_eq_false_iff_ne]; exact h0
    have e0 : ((bs (ofS none)).toList == []) = true := by rw [bs_toList]; rfl
    clear h0 E
    go_wp2
    go_ret
    exact ⟨rfl, B2.out⟩
end Go.Proofs.Ytihiohohocfchaa
