/-
  The law MacroOrder holds: the walk. Condition: at most 1048576 macros, strings of at most 2^32 bytes.
-/
import Derived.Test.YtoinflfibofofaaMGood
import Derived.Test.YtoinflfibofofaaMPerm
import Derived.Test.YtoinflfibofofaaMRev
namespace Go.Proofs.Ytoinflfibofofaa
set_option linter.unusedVariables false
open Go.ChangeShapes Go.WideShapes Go.ChangeAt Go.RowKit

theorem ans_perm {z y : List Mc} {s a b : Str} {E F : Int} (h : y.Perm z) (h1 : Ans z s a E) (h2 : Ans y s b F) : a = b ∧ ((E == 0) = (F == 0)) := by
  rcases h1 with ⟨rfl, h1⟩ | ⟨e1, rfl, _, h1⟩ <;> rcases h2 with ⟨rfl, h2⟩ | ⟨e2, rfl, _, h2⟩
  · exact ⟨(h1.perm h).one h2, rfl⟩
  · exact absurd (h1.perm h) (h2 _)
  · exact absurd (h2.perm h.symm) (h1 _)
  · exact ⟨rfl, by rw [beq_eq_false_iff_ne.2 e1, beq_eq_false_iff_ne.2 e2]⟩
set_option maxHeartbeats 4000000 in
set_option maxRecDepth 100000 in
theorem order_walk (z : List Mc) (v : Value) (s : Str) (w : World) (h : McIn w v z) (hn : z.length ≤ 1048576) (hx : ∀ m ∈ z, m.1.length ≤ maxLen ∧ m.2.length ≤ 4294967296) (hs : s.length ≤ 4294967296) :
    Calls Try.prog 4 #[v, .string (bs s)] w fun e w' => e = .returned (.bool true) ∧ Below w.heap.size w w' := by
  have EX : Hid (∀ (W : World), Below w.heap.size w W → Calls Try.prog 10 #[v, .string (bs s)] W (EPost z s W)) := fun W hW => exp_any z s v W (h.later hW) hx hs
  have EP : Hid (∀ (y : List Mc) (u : Value) (W : World), y.Perm z → McIn W u y → Calls Try.prog 10 #[u, .string (bs s)] W (EPost y s W)) := fun y u W hp hu => exp_any y s u W hu (fun m hm => hx m (hp.mem_iff.1 hm)) hs
  have CL : Hid (∀ (W : World), Below w.heap.size w W → Calls Try.prog 21 #[v] W fun e w' => ∃ v', e = .returned v' ∧ MO W.heap.size v' z w' ∧ Below W.heap.size W w') := fun W hW => clone_any z v W (h.later hW) hn
  have RV : Hid (∀ (B : Nat) (u : Value) (W : World), MO B u z W → Calls Try.prog 22 #[u] W fun e w' => e = .returned (.tuple #[]) ∧ ∃ p : List Mc, p.Perm z ∧ MO B u p w' ∧ Below B W w') := fun B u W hu => rev_any B z u W hu hn
  have HN := Lib.hid hn
  clear h hx hs hn
  go_enter Try.func4, Try.ntmps4
  go_wp2_with fail
  refine (macros_any _).mono ?_
  rintro e w1 ⟨rfl, hb1⟩
  have B1 := Lib.hid hb1; clear hb1
  go_wp2_with fail
  refine (CL.out _ B1.out).mono ?_
  rintro e w2 ⟨u, rfl, ho, hb2⟩
  have B2 : Hid (Below w.heap.size w w2) := B1.out.trans (hb2.mono B1.out.size)
  have O2 := Lib.hid ho
  clear hb2 ho
  go_wp2_with fail
  refine (RV.out _ u _ O2.out).mono ?_
  rintro e w3 ⟨rfl, p, hp, ho, hb3⟩
  have B3 : Hid (Below w.heap.size w w3) := B2.out.trans (hb3.mono B1.out.size)
  have PP := Lib.hid hp
  have I3 : Hid (McIn w3 u p) := McIn.own ho (by have := HN.out; rw [hp.length_eq]; omega)
  clear hb3 ho hp
  go_wp2_with fail
  refine (EX.out _ B3.out).mono ?_
  intro e w4 h4
  obtain ⟨hb4, a, E, rfl, ha⟩ := ans_of h4
  have B4 : Hid (Below w.heap.size w w4) := B3.out.trans (hb4.mono B3.out.size)
  have I4 := Lib.hid (I3.out.later hb4)
  have HA := Lib.hid ha
  clear h4 hb4 ha
  go_wp2_with fail
  refine (EP.out p u _ PP.out I4.out).mono ?_
  intro e w5 h5
  obtain ⟨hb5, b, F, rfl, hb⟩ := ans_of h5
  have B5 : Hid (Below w.heap.size w w5) := B4.out.trans (hb5.mono B4.out.size)
  obtain ⟨rfl, ef⟩ := ans_perm PP.out HA.out hb
  have eq2 : ((bs a).toList == (bs a).toList) = true := by simp
  clear h5 hb5 hb HA
  go_wp2
  go_ret
  exact ⟨ret_b (by simp), B5.out⟩
theorem order_walkB (z : List Mc) (v : Value) (S : ByteArray) (w : World) (h : McIn w v z) (hn : z.length ≤ 1048576) (hx : ∀ m ∈ z, m.1.length ≤ maxLen ∧ m.2.length ≤ 4294967296) (hs : S.data.toList.length ≤ 4294967296) :
    Calls Try.prog 4 #[v, .string S] w fun e w' => e = .returned (.bool true) ∧ Below w.heap.size w w' := by
  have := order_walk z v S.data.toList w h hn hx hs
  rw [bs_of] at this
  exact this
end Go.Proofs.Ytoinflfibofofaa
