/-
  The law MacroTells holds: the walk. Condition: names of at most 2^47 bytes (the form says so).
-/
import Derived.Test.YtoinflfibofofaaMEx
namespace Go.Proofs.Ytoinflfibofofaa
set_option linter.unusedVariables false
open Go.ChangeShapes Go.WideShapes Go.ChangeAt Go.RowKit

theorem long_any (x y : Str) (w : World) : Calls Try.prog 8 #[.agg #[.string (bs x), .string (bs y)]] w fun e w' => e = .returned (.bool (decide (2001 < y.length))) ∧ Below w.heap.size w w' := by
  have sy : (bs y).size = y.length := bs_size y
  have BA : Hid (∀ o, Below w.heap.size w (w.alloc o)) := fun o => (Below.refl _ _).alloc (Nat.le_refl _) o
  by_cases h : 2001 < y.length
  · rw [decide_eq_true h]
    have t1 : decide ((2001 : Int) < (y.length : Int)) = true := decide_eq_true (by omega)
    go_enter Try.func8, Try.ntmps8
    go_wp2
    go_ret
    exact ⟨rfl, BA.out _⟩
  · rw [decide_eq_false h]
    have t1 : decide ((2001 : Int) < (y.length : Int)) = false := decide_eq_false (by omega)
    go_enter Try.func8, Try.ntmps8
    go_wp2
    go_ret
    exact ⟨rfl, BA.out _⟩
set_option maxHeartbeats 2000000 in
theorem idxm_any (z : List Mc) (v : Value) (w : World) (h : McIn w v z) :
    Calls Try.prog 24 #[v, .func (.func 8) #[] #[]] w fun e w' =>
      ((e = .returned (.int .i64 (-1)) ∧ ∀ m ∈ z, m.2.length ≤ 2001) ∨ (∃ k : Nat, e = .returned (.int .i64 (k : Int)))) ∧ Below w.heap.size w w' := by
  have hn : z.length ≤ 8796093022208 := by obtain ⟨_, _, _, _, _, h4, _⟩ := h; exact h4
  rcases h.open with ⟨rfl, a, cap, rfl⟩ | ⟨hp, b, off, cap, rfl, hcap, hlt, hc⟩
  · clear h
    go_enter Try.func24, Try.ntmps24
    go_wp2_with fail
    go_rounds 1
    go_ret
    exact ⟨.inl ⟨rfl, fun m hm => absurd hm List.not_mem_nil⟩, Below.refl _ _⟩
  · have HC : Hid (∀ W, Below w.heap.size w W → ∀ k, k < z.length → W.cell? ⟨b, off + k * 2, none⟩ = some (.string (bs (nm z k))) ∧ W.cell? ⟨b, off + k * 2 + 1, none⟩ = some (.string (bs (vl z k)))) := fun W hW k hk => ⟨cell_later hW (hc k _ (at_some hk)).1, cell_later hW (hc k _ (at_some hk)).2⟩
    have HT : Hid (∀ k, k < z.length → z.take (k + 1) = z.take k ++ [(nm z k, vl z k)]) := fun k hk => take_at hk
    clear h hc hlt
    generalize nm z = f at *
    generalize vl z = g at *
    go_enter Try.func24, Try.ntmps24
    go_wp2_with fail
    go_loopw [8] (fun i wr => ∃ k : Nat, k ≤ z.length ∧ i = .int .i64 k ∧ (∀ m ∈ z.take k, m.2.length ≤ 2001) ∧ Below w.heap.size w wr) (fun i _ => z.length - (intOf i).toNat)
    case atStart => exact ⟨0, by omega, rfl, fun m hm => absurd hm (by simp), Below.refl _ _⟩
    case round =>
      obtain ⟨k, hk, rfl, q1, q2⟩ := hrel
      have Q1 := Lib.hid q1; have Q2 := Lib.hid q2; clear q1 q2
      by_cases hk2 : k < z.length
      · obtain ⟨c1, c2⟩ := HC.out wr Q2.out k hk2
        have T1 := Lib.hid (HT.out k hk2)
        generalize f k = x at *
        generalize g k = y at *
        have LA := Lib.hid (long_any x y wr)
        go_wp2_with fail
        refine LA.out.mono ?_
        rintro e w2 ⟨rfl, hb2⟩
        have B2 : Hid (Below w.heap.size w w2) := Q2.out.trans (hb2.mono Q2.out.size)
        clear hb2 LA
        by_cases hy : 2001 < y.length
        · rw [decide_eq_true hy]
          clear hy
          go_wp2
          go_ret
          exact ⟨.inr ⟨k, rfl⟩, B2.out⟩
        · rw [decide_eq_false hy]
          have HY := Lib.hid hy; clear hy
          go_wp2
          go_roundw
          case rel =>
            refine ⟨k + 1, by omega, by go_num, fun m hm => ?_, B2.out⟩
            rw [T1.out] at hm
            rcases List.mem_append.1 hm with hm | hm
            · exact Q1.out m hm
            · rw [List.mem_singleton.1 hm]; have := HY.out; show y.length ≤ 2001; omega
          case measure => simp [intOf]; omega
      · obtain rfl : k = z.length := by omega
        go_wp2
        go_ret
        have q := Q1.out
        rw [List.take_length] at q
        exact ⟨.inl ⟨rfl, q⟩, Q2.out⟩
theorem contm_any (z : List Mc) (v : Value) (w : World) (h : McIn w v z) :
    Calls Try.prog 7 #[v, .func (.func 8) #[] #[]] w fun e w' =>
      ((e = .returned (.bool false) ∧ ∀ m ∈ z, m.2.length ≤ 2001) ∨ e = .returned (.bool true)) ∧ Below w.heap.size w w' := by
  have H := Lib.hid (idxm_any z v w h)
  clear h
  go_enter Try.func7, Try.ntmps7
  go_wp2_with fail
  refine H.out.mono ?_
  rintro e w1 ⟨(⟨rfl, hz⟩ | ⟨k, rfl⟩), hb⟩
  · have HZ := Lib.hid hz; have HB := Lib.hid hb; clear hz hb H
    go_wp2
    go_ret
    exact ⟨.inl ⟨rfl, HZ.out⟩, HB.out⟩
  · have HB := Lib.hid hb; clear hb H
    have t : decide (0 ≤ (k : Int)) = true := decide_eq_true (by omega)
    go_wp2
    go_ret
    exact ⟨.inr rfl, HB.out⟩

/-- what both Flats answer -/
def FlatIs (z : List Mc) (E : Int) (P : List Mc) : Prop := (E = 0 ∧ Fine z ∧ ∃ o f, (∀ m, m ∈ o ↔ m ∈ z) ∧ FE z o f ∧ P = flatL f z) ∨ (XErr z E ∧ P = [])
theorem flatIs_of {z : List Mc} {w w' : World} {e : Ending} (h : FPost z w e w') : Below w.heap.size w w' ∧ ∃ v E P, e = .returned (.tuple #[v, .int .i64 E]) ∧ McIn w' v P ∧ FlatIs z E P := by
  obtain ⟨hb, h⟩ := h
  refine ⟨hb, ?_⟩
  rcases h with ⟨hF, o, f, v, ho, hE, hI, rfl⟩ | ⟨E, hE, rfl⟩
  · exact ⟨v, 0, _, rfl, hI, .inl ⟨rfl, hF, o, f, ho, hE, rfl⟩⟩
  · exact ⟨_, E, [], rfl, ⟨none, 0, rfl, Nat.le_refl _, Nat.zero_le _, Nat.zero_le _, .inl rfl⟩, .inr ⟨hE, rfl⟩⟩
theorem FlatIs.one {z P Q : List Mc} {E F : Int} (h1 : FlatIs z E P) (h2 : FlatIs z F Q) : E = F ∧ P = Q := by
  rcases h1 with ⟨rfl, F1, o, f, ho, hf, rfl⟩ | ⟨x1, rfl⟩ <;> rcases h2 with ⟨rfl, F2, o', f', ho', hf', rfl⟩ | ⟨x2, rfl⟩
  · exact ⟨rfl, hf.same ho hf' ho'⟩
  · exact absurd F1 x2.bad.1
  · exact absurd F2 x1.bad.1
  · exact ⟨x1.one x2, rfl⟩
theorem Ans.one {z : List Mc} {s a b : Str} {E F : Int} (h1 : Ans z s a E) (h2 : Ans z s b F) : a = b ∧ E = F := by
  rcases h1 with ⟨rfl, h1⟩ | ⟨e1, rfl, x1, h1⟩ <;> rcases h2 with ⟨rfl, h2⟩ | ⟨e2, rfl, x2, h2⟩
  · exact ⟨h1.one h2, rfl⟩
  · exact absurd h1 (h2 _)
  · exact absurd h2 (h1 _)
  · exact ⟨rfl, x1.one x2⟩
set_option maxHeartbeats 4000000 in
set_option maxRecDepth 100000 in
theorem tells_short (z : List Mc) (v : Value) (s : Str) (w : World) (h : McIn w v z) (hx : ∀ m ∈ z, m.1.length ≤ maxLen) (hs : s.length ≤ 2001) :
    Calls Try.prog 3 #[v, .string (bs s)] w fun e w' => e = .returned (.bool true) ∧ Below w.heap.size w w' := by
  have CF := Lib.hid (contm_any z v w h)
  have ss : (bs s).size = s.length := bs_size s
  have t0 : decide ((2001 : Int) < (s.length : Int)) = false := decide_eq_false (by omega)
  have HM := Lib.hid h
  have HX := Lib.hid hx
  have HS := Lib.hid hs
  clear h hx hs
  go_enter Try.func3, Try.ntmps3
  go_wp2_with fail
  refine CF.out.mono ?_
  rintro e w1 ⟨(⟨rfl, hz⟩ | rfl), hb1⟩
  · have B1 := Lib.hid hb1
    have XX : Hid (∀ m ∈ z, m.1.length ≤ maxLen ∧ m.2.length ≤ 4294967296) := fun m hm => ⟨HX.out m hm, by have := hz m hm; omega⟩
    have MM : Hid (∀ W, Below w.heap.size w W → McIn W v z) := fun W hW => HM.out.later hW
    have SS : Hid (s.length ≤ 4294967296) := by have := HS.out; show _ ≤ _; omega
    clear hz hb1 CF HM HX
    go_wp2_with fail
    refine (flat_any z v _ (MM.out _ B1.out) XX.out).mono ?_
    intro e w2 h2
    obtain ⟨hb2, va, E, P, rfl, hI, hP⟩ := flatIs_of h2
    have B2 : Hid (Below w.heap.size w w2) := B1.out.trans (hb2.mono B1.out.size)
    have IA := Lib.hid hI; have FP := Lib.hid hP
    clear h2 hb2 hI hP
    go_wp2_with fail
    refine (exp_any z s v _ (MM.out _ B2.out) XX.out SS.out).mono ?_
    intro e w3 h3
    obtain ⟨hb3, tb, F, rfl, hA⟩ := ans_of h3
    have B3 : Hid (Below w.heap.size w w3) := B2.out.trans (hb3.mono B2.out.size)
    have IA3 := Lib.hid (IA.out.later hb3); have AN := Lib.hid hA
    clear h3 hb3 hA IA
    go_wp2_with fail
    refine (uses_any s _ SS.out).mono ?_
    intro e w4 h4
    obtain ⟨hb4, h4⟩ := h4
    have B4 : Hid (Below w.heap.size w w4) := B3.out.trans (hb4.mono B3.out.size)
    have IA4 := Lib.hid (IA3.out.later hb4)
    obtain ⟨vc, G, U, rfl, hc1, hc2⟩ : ∃ vc G U, e = .returned (.tuple #[vc, .int .i64 G]) ∧ SIn w4 vc U ∧ ((∃ T, tk none s = some T ∧ G = 0 ∧ U = dd T) ∨ (tk none s = none ∧ G = 3 ∧ U = [])) := by
      rcases h4 with ⟨T, v', hT, rfl, hin, _⟩ | ⟨hT, rfl⟩
      · exact ⟨v', 0, _, rfl, hin, .inl ⟨T, hT, rfl, rfl⟩⟩
      · exact ⟨_, 3, [], rfl, ⟨none, 0, rfl, Nat.le_refl _, Nat.zero_le _, fun x hx => absurd hx List.not_mem_nil, .inl rfl⟩, .inr ⟨hT, rfl, rfl⟩⟩
    have IC4 := Lib.hid hc1; have CU := Lib.hid hc2
    clear h4 hb4 hc1 hc2 IA3
    go_wp2_with fail
    refine (rflat_any z v _ (MM.out _ B4.out) XX.out).mono ?_
    intro e w5 h5
    obtain ⟨hb5, vx, H, Q, rfl, hI, hQ⟩ := flatIs_of h5
    have B5 : Hid (Below w.heap.size w w5) := B4.out.trans (hb5.mono B4.out.size)
    have IA5 := Lib.hid (IA4.out.later hb5); have IC5 := Lib.hid (IC4.out.later hb5); have IX5 := Lib.hid hI
    obtain ⟨rfl, rfl⟩ := FP.out.one hQ
    clear h5 hb5 hI hQ IA4 IC4 FP
    go_wp2_with fail
    refine (exd_any z s v _ (MM.out _ B5.out) XX.out SS.out).mono ?_
    intro e w6 h6
    obtain ⟨hb6, ty, I, rfl, hA⟩ := ans_of h6
    have B6 : Hid (Below w.heap.size w w6) := B5.out.trans (hb6.mono B5.out.size)
    have IA6 := Lib.hid (IA5.out.later hb6); have IC6 := Lib.hid (IC5.out.later hb6); have IX6 := Lib.hid (IX5.out.later hb6)
    obtain ⟨rfl, rfl⟩ := AN.out.one hA
    clear h6 hb6 hA IA5 IC5 IX5 AN
    have CA := Lib.hid (calls_any (bs s) w6 (by rw [bs_size]; exact SS.out))
    rw [bs_list] at CA
    go_wp2_with fail
    refine CA.out.mono ?_
    intro e w7 h7
    obtain ⟨hb7, h7⟩ := h7
    have B7 : Hid (Below w.heap.size w w7) := B6.out.trans (hb7.mono B6.out.size)
    have IA7 := Lib.hid (IA6.out.later hb7); have IC7 := Lib.hid (IC6.out.later hb7); have IX7 := Lib.hid (IX6.out.later hb7)
    obtain ⟨vk, ok, rfl, hk⟩ : ∃ vk ok, e = .returned (.tuple #[vk, .bool ok]) ∧ ((∃ T, ok = true ∧ tk none s = some T ∧ T.length ≤ s.length ∧ CIn w7 vk T) ∨ (ok = false ∧ tk none s = none)) := by
      rcases h7 with ⟨T, v', hT, hl, rfl, hC⟩ | ⟨hT, rfl⟩
      · exact ⟨v', true, rfl, .inl ⟨T, rfl, hT, hl, hC⟩⟩
      · exact ⟨_, false, rfl, .inr ⟨rfl, hT⟩⟩
    have KK := Lib.hid hk
    clear h7 hb7 hk CA IA6 IC6 IX6
    go_wp2_with fail
    refine (check_macro z v _ (MM.out _ B7.out) XX.out).mono ?_
    rintro e w8 ⟨E1, rfl, hE1, hb8⟩
    have B8 : Hid (Below w.heap.size w w8) := B7.out.trans (hb8.mono B7.out.size)
    have C8 : Hid (Below w7.heap.size w7 w8) := hb8
    have X1 := Lib.hid hE1
    clear hE1 hb8
    go_wp2_with fail
    refine (fault_any z v _ (MM.out _ B8.out) XX.out).mono ?_
    rintro e w9 ⟨E2, rfl, hE2, hb9⟩
    have B9 : Hid (Below w.heap.size w w9) := B8.out.trans (hb9.mono B8.out.size)
    have C9 : Hid (Below w7.heap.size w7 w9) := C8.out.trans (hb9.mono C8.out.size)
    obtain rfl := X1.out.one hE2
    have IA9 := Lib.hid (IA7.out.later C9.out); have IX9 := Lib.hid (IX7.out.later C9.out)
    clear hE2 hb9 X1 C8
    have n1 : (E1 != E1) = false := by simp
    have n2 : (E != E) = false := by simp
    have n3 : (F != F) = false := by simp
    have n4 : ((bs tb).toList == (bs tb).toList) = true := by simp
    have n5 : ((bs tb).toList != (bs tb).toList) = false := by simp
    go_wp2_with fail
    refine (eqm_same P va vx _ IA9.out IX9.out).mono ?_
    rintro e wA ⟨rfl, hbA⟩
    have BA : Hid (Below w.heap.size w wA) := B9.out.trans (hbA.mono B9.out.size)
    have CB : Hid (Below w7.heap.size w7 wA) := C9.out.trans (hbA.mono C9.out.size)
    clear hbA
    rcases KK.out with ⟨T, rfl, hT, hl, hC⟩ | ⟨rfl, hT⟩
    · obtain ⟨g0, gU⟩ : G = 0 ∧ U = dd T := by
        rcases CU.out with ⟨T', hT', h1, h2⟩ | ⟨hT', _⟩
        · rw [hT] at hT'; cases hT'; exact ⟨h1, h2⟩
        · rw [hT] at hT'; cases hT'
      subst g0
      have UE := Lib.hid gU
      have KC := Lib.hid (hC.later CB.out)
      have IB := Lib.hid (IC7.out.later CB.out)
      have CD := Lib.hid (called_any T vk wA KC.out (by have := SS.out; omega) (tk_good s none T hT))
      have DL : Hid ((dd T).length ≤ 17592186044416 ∧ ∀ x ∈ dd T, x.length ≤ 9223372036854775807) := ⟨by have h1 := dd_le T; have h2 := SS.out; omega, fun x hx => by have := (good_len (tk_good s none T hT x ((mem_dd x T).1 hx))).2; omega⟩
      clear gU hT hl hC KK CU
      go_wp2_with fail
      refine CD.out.mono ?_
      rintro e wC ⟨vd, rfl, od, hbC⟩
      have BC : Hid (Below w.heap.size w wC) := BA.out.trans (hbC.mono BA.out.size)
      have ID : Hid (SIn wC vd U) := by rw [UE.out]; exact SIn.own od DL.out.1 DL.out.2
      have IE := Lib.hid (IB.out.later hbC)
      clear od hbC CD
      go_wp2_with fail
      refine (eqs_same U vc vd _ IE.out ID.out).mono ?_
      rintro e wD ⟨rfl, hbD⟩
      have BD : Hid (Below w.heap.size w wD) := BC.out.trans (hbD.mono BC.out.size)
      clear hbD
      go_wp2
      go_ret
      exact ⟨rfl, BD.out⟩
    · obtain ⟨g0, gU⟩ : G = 3 ∧ U = [] := by
        rcases CU.out with ⟨T', hT', h1, h2⟩ | ⟨_, h1, h2⟩
        · rw [hT] at hT'; cases hT'
        · exact ⟨h1, h2⟩
      subst g0
      obtain ⟨ac, cc, rfl⟩ : ∃ ac cc, vc = .slice ac 0 cc := by
        obtain ⟨a', c', e', _⟩ := IC7.out
        rw [gU] at e'
        exact ⟨a', c', e'⟩
      clear gU hT KK CU
      go_wp2
      go_ret
      exact ⟨rfl, BA.out⟩
  · have B1 := Lib.hid hb1; clear hb1 CF
    go_wp2
    go_ret
    exact ⟨rfl, B1.out⟩
theorem tells_walk (z : List Mc) (v : Value) (S : ByteArray) (w : World) (h : McIn w v z) (hx : ∀ m ∈ z, m.1.length ≤ maxLen) (hs : S.size ≤ maxLen) :
    Calls Try.prog 3 #[v, .string S] w fun e w' => e = .returned (.bool true) ∧ Below w.heap.size w w' := by
  by_cases hl : S.size ≤ 2001
  · have := tells_short z v S.data.toList w h hx (by rw [size_list]; exact hl)
    rw [bs_of] at this
    exact this
  · have t0 : decide ((2001 : Int) < (S.size : Int)) = true := decide_eq_true (by omega)
    clear h hx hs hl
    go_enter Try.func3, Try.ntmps3
    go_wp2
    go_ret
    exact ⟨rfl, Below.refl _ _⟩
end Go.Proofs.Ytoinflfibofofaa
