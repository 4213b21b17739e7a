/-
  The law MacroFlat holds: the walk. Condition: strings of at most 2^32 bytes.
-/
import Derived.Test.YtoinflfibofofaaDoorMDbl
import Derived.Test.YtoinflfibofofaaDoorMMac
namespace Go.Proofs.YtoinflfibofofaaDoor
set_option linter.unusedVariables false
open Go.ChangeShapes Go.WideShapes Go.ChangeAt Go.RowKit

/-- the library's own variable holds some number -/
def MX (w : World) : Prop := ∃ m, w.cell? ⟨0, 0, none⟩ = some (.int .i64 m)
theorem MX.later {w w' : World} (h : MX w) (hb : Below w.heap.size w w') : MX w' := by obtain ⟨m, hm⟩ := h; exact ⟨m, cell_later hb hm⟩
theorem dbl_call (x : Str) (w : World) (hx : x.length ≤ 2000) (hm : MX w) : Calls Tryd.prog 8 #[.string (bs x), .string (ByteArray.mk #[36]), .string (ByteArray.mk #[36, 36])] w fun e w' => e = .returned (.string (bs (dbl x))) ∧ Below w.heap.size w w' := by
  obtain ⟨m, hm⟩ := hm
  have hc := Lib.countB_mul_le ⟨#[36]⟩ (by decide) _ (bs x) (Nat.le_refl _)
  have e2 : (ByteArray.mk #[36, 36]).size = 2 := rfl
  have e1 : (ByteArray.mk #[36]).size = 1 := rfl
  have hs := bs_size x
  refine (Tryd.strings_ReplaceAll (bs x) ⟨#[36]⟩ ⟨#[36, 36]⟩ m w (by omega) hm (by decide) (by rw [e2]; rw [e1] at hc; omega)).mono ?_
  rintro e w' ⟨rfl, h⟩
  exact ⟨ret_s (dbl_lib x), h⟩
theorem mcCells_set2 : ∀ (p : List Mc) (i : Nat) (y : Str), i < p.length → mcCells (p.set i (nm p i, y)) = (mcCells p).set (i * 2 + 1) (.string (bs y))
  | [], i, y, h => by simp at h
  | a :: t, 0, y, h => by simp [mcCells, encMc, nm]
  | a :: t, i + 1, y, h => by
    have ih := mcCells_set2 t i y (by simpa using h)
    have e : ∀ (a : Mc) (t : List Mc), mcCells (a :: t) = .string (bs a.1) :: .string (bs a.2) :: mcCells t := fun a t => by simp [mcCells, encMc]
    rw [List.set_cons_succ, show nm (a :: t) (i + 1) = nm t i from rfl, e, e, ih, show (i + 1) * 2 + 1 = (i * 2 + 1) + 1 + 1 by omega, List.set_cons_succ, List.set_cons_succ]
theorem MO.put2 {B g cap : Nat} {p : List Mc} {w : World} (h : MO B (.slice (some ⟨g, 0, none⟩) p.length cap) p w) {k : Nat} (hk : k < p.length) (y : Str) :
    MO B (.slice (some ⟨g, 0, none⟩) p.length cap) (p.set k (nm p k, y)) (w.setCell ⟨g, k * 2 + 1, none⟩ (.string (bs y))) := by
  unfold MO at h ⊢
  rw [List.length_set, mcCells_set2 p k y hk]
  exact (h.stored (k * 2 + 1) (.string (bs y))).1
theorem ans_quo {z o : List Mc} {f : Str → Option Str} {s a b : Str} {E G : Int} (h : FE z o f) (ho : ∀ m, m ∈ o ↔ m ∈ z) (F : Fine z) (h1 : Ans z s a E) (h2 : Ans (quoL f z) s b G) : a = b ∧ E = G := by
  rcases h1 with ⟨rfl, h1⟩ | ⟨e1, rfl, x1, h1⟩ <;> rcases h2 with ⟨rfl, h2⟩ | ⟨e2, rfl, x2, h2⟩
  · exact ⟨(h.exp_quo ho h1).one h2, rfl⟩
  · exact absurd (h.exp_quo ho h1) (h2 _)
  · exact absurd (h.quo_exp ho F h2) (h1 _)
  · exact ⟨rfl, err_same F (h.quo_fine ho F) (quo_names f z) x1 x2⟩
theorem take_dbl {p : List Mc} {k : Nat} (h : k < p.length) : (p.map fun m => (m.1, dbl m.2)).take (k + 1) = (p.map fun m => (m.1, dbl m.2)).take k ++ [(nm p k, dbl (vl p k))] := by
  rw [List.take_add_one, List.getElem?_map, at_some h]; rfl
set_option maxHeartbeats 4000000 in
set_option maxRecDepth 100000 in
theorem flat_walk (z : List Mc) (v : Value) (s : Str) (w : World) (h : McIn w v z) (hx : ∀ m ∈ z, m.1.length ≤ maxLen ∧ m.2.length ≤ 4294967296) (hs : s.length ≤ 4294967296) (hm : MX w) :
    Calls Tryd.prog 3 #[v, .string (bs s)] w fun e w' => e = .returned (.bool true) ∧ Below w.heap.size w w' := by
  have EX : Hid (∀ (W : World), Below w.heap.size w W → Calls Tryd.prog 6 #[v, .string (bs s)] W (EPost z s W)) := fun W hW => exp_any z s v W (h.later hW) hx hs
  have FL : Hid (∀ (W : World), Below w.heap.size w W → Calls Tryd.prog 5 #[v] W (FPost z W)) := fun W hW => flat_any z v W (h.later hW) hx
  have HX := Lib.hid hx; have HS := Lib.hid hs
  have HM : Hid (∀ W, Below w.heap.size w W → MX W) := fun W hW => hm.later hW
  clear h hx hs hm
  go_enter Tryd.func3, Tryd.ntmps3
  go_wp2_with fail
  refine (macros_any _).mono ?_
  rintro e w1 ⟨rfl, hb1⟩
  have B1 := Lib.hid hb1; clear hb1
  go_wp2_with fail
  refine (FL.out _ B1.out).mono ?_
  rintro e w2 ⟨hb2, (⟨hF, o, f, u, ho, hE, hI, rfl⟩ | ⟨E, hE, rfl⟩)⟩
  · have B2 : Hid (Below w.heap.size w w2) := B1.out.trans (hb2.mono B1.out.size)
    have FF := Lib.hid hF; have HO := Lib.hid ho; have HE := Lib.hid hE; have I2 := Lib.hid hI
    have PN : Hid ((flatL f z).length ≤ 40) := by show _ ≤ _; unfold flatL; rw [List.length_map]; exact hF.1
    have PV : Hid (∀ m ∈ flatL f z, m.1.length ≤ maxLen ∧ m.2.length ≤ 2000) := by
      intro m hm
      obtain ⟨y, hy, rfl⟩ := List.mem_map.1 hm
      obtain ⟨t, ht, hl⟩ := hE.get ho hy
      refine ⟨(HX.out y hy).1, ?_⟩
      show ((f y.1).getD []).length ≤ 2000
      rw [ht]; exact hl
    have QE : Hid (quoL f z = (flatL f z).map fun m => (m.1, dbl m.2)) := by show _ = _; unfold quoL flatL; rw [List.map_map]; rfl
    have EQ : Hid (∀ (u' : Value) (W : World), McIn W u' (quoL f z) → Calls Tryd.prog 6 #[u', .string (bs s)] W (EPost (quoL f z) s W) ∧ Calls Tryd.prog 5 #[u'] W (FPost (quoL f z) W)) := fun u' W hu' => by
      have hx' : ∀ m ∈ quoL f z, m.1.length ≤ maxLen ∧ m.2.length ≤ 4294967296 := by
        rw [QE.out]
        intro m hm
        obtain ⟨y, hy, rfl⟩ := List.mem_map.1 hm
        have h1 := PV.out y hy
        have h2 := dbl_le y.2
        exact ⟨h1.1, by show (dbl y.2).length ≤ _; omega⟩
      exact ⟨exp_any _ s u' W hu' hx' HS.out, flat_any _ u' W hu' hx'⟩
    have CL : Hid (∀ (W : World), Below w2.heap.size w2 W → Calls Tryd.prog 7 #[u] W fun e w' => ∃ v', e = .returned v' ∧ MO W.heap.size v' (flatL f z) w' ∧ Below W.heap.size W w') := fun W hW => clone_any _ u W (I2.out.later hW) (by have := PN.out; omega)
    clear hb2 hF ho hE hI FL
    go_wp2_with fail
    refine (EX.out _ B2.out).mono ?_
    intro e w3 h3
    obtain ⟨hb3, a, E, rfl, ha⟩ := ans_of h3
    have B3 : Hid (Below w2.heap.size w2 w3) := hb3
    have I3 := Lib.hid (I2.out.later hb3)
    have HA := Lib.hid ha
    clear hb3 h3 ha I2
    go_wp2_with fail
    refine (CL.out _ B3.out).mono ?_
    rintro e w4 ⟨q, rfl, o4, hb4⟩
    obtain ⟨x, c, rfl⟩ := o4.len
    have O4 := Lib.hid o4
    have B4 : Hid (Below w3.heap.size w3 w4) := hb4
    have BX : Hid (∀ W, Below w3.heap.size w3 W → Below w2.heap.size w2 W ∧ Below w.heap.size w W) := fun W hW => ⟨B3.out.trans (hW.mono B3.out.size), B2.out.trans ((B3.out.trans (hW.mono B3.out.size)).mono B2.out.size)⟩
    clear o4 hb4 CL EX
    obtain ⟨P, hP⟩ : ∃ P, P = flatL f z := ⟨_, rfl⟩
    rw [← hP] at PN PV QE I3 O4 ⊢
    have HP := Lib.hid hP; clear hP
    have TD : Hid (∀ k, k < P.length → (P.map fun m => (m.1, dbl m.2)).take (k + 1) = (P.map fun m => (m.1, dbl m.2)).take k ++ [(nm P k, dbl (vl P k))]) := fun k hk => take_dbl hk
    have pn := PN.out
    go_wp2_with fail
    go_loopw [37] (fun i wr => ∃ (k : Nat) (p : List Mc), k ≤ P.length ∧ i = .int .i64 (k : Int) ∧ p.length = P.length ∧ p.take k = (P.map fun m => (m.1, dbl m.2)).take k ∧ p.drop k = P.drop k ∧ MO w3.heap.size (.slice x P.length c) p wr ∧ Below w3.heap.size w3 wr) (fun i _ => P.length - (intOf i).toNat)
    case atStart => exact ⟨0, P, Nat.zero_le _, rfl, rfl, rfl, rfl, O4.out, B4.out⟩
    case round =>
      obtain ⟨k, p, hk, rfl, q0, q1, q2, q3, q4⟩ := hrel
      have Q0 := Lib.hid q0; have Q1 := Lib.hid q1; have Q2 := Lib.hid q2; have Q3 := Lib.hid q3; have Q4 := Lib.hid q4; clear q0 q1 q2 q3 q4
      by_cases hk2 : k < P.length
      · obtain ⟨g, rfl, hg⟩ : ∃ g, x = some ⟨g, 0, none⟩ ∧ w3.heap.size ≤ g := by
          rcases Q3.out.2 with ⟨_, e0⟩ | ⟨g, cap, cur, hv, hb, _⟩
          · have := Q0.out; omega
          · rw [Q0.out] at hv; simp at hv; exact ⟨g, hv.1, hb⟩
        have HG := Lib.hid hg; clear hg
        have kp : k < p.length := by have := Q0.out; omega
        have AT : Hid (nm p k = nm P k ∧ vl p k = vl P k) := by
          have h1 := at_some kp
          have h2 := at_some hk2
          have h3 : p[k]? = P[k]? := by
            have := congrArg (fun l : List Mc => l[0]?) Q2.out
            simpa [List.getElem?_drop] using this
          rw [h1, h2] at h3
          have h4 := Option.some.inj h3
          exact ⟨congrArg Prod.fst h4, congrArg Prod.snd h4⟩
        have LV : Hid ((vl p k).length ≤ 2000) := by show _ ≤ _; rw [AT.out.2]; exact (PV.out _ (mem_at hk2)).2
        have Q5 : Hid (MO w3.heap.size (.slice (some ⟨g, 0, none⟩) p.length c) p wr) := by have := Q3.out; rw [← Q0.out] at this; exact this
        obtain ⟨c1, c2⟩ := Q5.out.cell kp
        have DC := Lib.hid (dbl_call (vl p k) wr LV.out (HM.out _ (BX.out _ Q4.out).2))
        have PU : Hid (∀ W, Below wr.heap.size wr W → MO w3.heap.size (.slice (some ⟨g, 0, none⟩) P.length c) (p.set k (nm p k, dbl (vl p k))) (W.setCell ⟨g, k * 2 + 1, none⟩ (.string (bs (dbl (vl p k))))) ∧ W.cell? ⟨g, k * 2 + 1, none⟩ = some (.string (bs (vl p k))) ∧ W.frozen? ⟨g, k * 2 + 1, none⟩ = false) := fun W hW => by
          have h1 := MO.later Q5.out hW
          refine ⟨by have := MO.put2 h1 kp (dbl (vl p k)); rw [Q0.out] at this; exact this, (h1.cell kp).2, World.ownsRow.frozenAt h1 _⟩
        clear Q3 Q5
        generalize hnx : nm p k = xn at *
        generalize hvy : vl p k = yv at *
        go_wp2_with fail
        refine DC.out.mono ?_
        rintro e w5 ⟨rfl, hb5⟩
        obtain ⟨m5, c5, f5⟩ := PU.out _ hb5
        have M5 := Lib.hid m5
        have B5 : Hid (Below w3.heap.size w3 w5) := Q4.out.trans (hb5.mono Q4.out.size)
        clear hb5 m5
        go_wp2
        go_roundw
        case rel =>
          refine ⟨k + 1, _, by omega, by go_num, by rw [List.length_set]; exact Q0.out, ?_, ?_, M5.out, B5.out.setCell HG.out _⟩
          · rw [TD.out k hk2, ← AT.out.1, ← AT.out.2, ← Q1.out, List.take_add_one, List.getElem?_set_self kp, List.take_set_of_le (Nat.le_refl _)]
            rfl
          · rw [List.drop_set, if_pos (by omega)]
            have := congrArg (List.drop 1) Q2.out
            rw [List.drop_drop, List.drop_drop] at this
            exact this
        case measure => simp [intOf]; omega
      · obtain rfl : k = P.length := by omega
        have QP : Hid (McIn wr (.slice x P.length c) (quoL f z)) := by
          have e1 := Q1.out
          have e2 : p = P.map fun m => (m.1, dbl m.2) := by
            rw [← Q0.out, List.take_length, Q0.out, show P.length = (P.map fun m => (m.1, dbl m.2)).length by rw [List.length_map], List.take_length] at e1
            exact e1
          rw [QE.out, ← e2]
          exact McIn.own Q3.out (by have := Q0.out; omega)
        have I4 := Lib.hid (I3.out.later Q4.out)
        clear Q0 Q1 Q2 Q3 TD O4 I3
        go_wp2_with fail
        refine (EQ.out _ _ QP.out).1.mono ?_
        intro e w6 h6
        obtain ⟨hb6, b', G, rfl, hb⟩ := ans_of h6
        have B6 : Hid (Below w3.heap.size w3 w6) := Q4.out.trans (hb6.mono Q4.out.size)
        have I6 := Lib.hid (I4.out.later hb6)
        have QP6 := Lib.hid (QP.out.later hb6)
        obtain ⟨rfl, rfl⟩ := ans_quo HE.out HO.out FF.out HA.out hb
        clear h6 hb6 hb HA
        go_wp2_with fail
        refine (EQ.out _ _ QP6.out).2.mono ?_
        rintro e w7 ⟨hb7, (⟨_, o', f', u', ho', hE', hI', rfl⟩ | ⟨E', hE', rfl⟩)⟩
        · have B7 : Hid (Below w3.heap.size w3 w7) := B6.out.trans (hb7.mono B6.out.size)
          have I7 := Lib.hid (I6.out.later hb7)
          have J7 : Hid (McIn w7 u' P) := by rw [HP.out, ← flat_quo HE.out HO.out FF.out hE' ho']; exact hI'
          have eq1 : ((bs a).toList == (bs a).toList) = true := by simp
          clear hb7 ho' hE' hI'
          go_wp2_with fail
          refine (eqm_same P u' u _ J7.out I7.out).mono ?_
          rintro e w8 ⟨rfl, hb8⟩
          have B8 : Hid (Below w3.heap.size w3 w8) := B7.out.trans (hb8.mono B7.out.size)
          clear hb8
          go_wp2
          go_ret
          exact ⟨ret_b (by simp), (BX.out _ B8.out).2⟩
        · exact absurd (HE.out.quo_fine HO.out FF.out) hE'.bad.1
  · have B2 : Hid (Below w.heap.size w w2) := B1.out.trans (hb2.mono B1.out.size)
    have t1 : (E != 0) = true := by simpa using hE.bad.2
    clear hb2 hE
    go_wp2
    go_ret
    exact ⟨rfl, B2.out⟩
theorem flat_walkB (z : List Mc) (v : Value) (S : ByteArray) (w : World) (h : McIn w v z) (hx : ∀ m ∈ z, m.1.length ≤ maxLen ∧ m.2.length ≤ 4294967296) (hs : S.data.toList.length ≤ 4294967296) (hm : MX w) :
    Calls Tryd.prog 3 #[v, .string S] w fun e w' => e = .returned (.bool true) ∧ Below w.heap.size w w' := by
  have := flat_walk z v S.data.toList w h hx hs hm
  rw [bs_of] at this
  exact this
end Go.Proofs.YtoinflfibofofaaDoor
