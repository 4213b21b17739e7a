/-
  Package macro's eachPart with two functions that keep some relation J on what has been read. Condition: the string has at most 2^32 bytes.
-/
import Derived.Test.YtoinflfibofofaaMCut
namespace Go.Proofs.Ytoinflfibofofaa
set_option linter.unusedVariables false
open Go.ChangeShapes Go.WideShapes Go.ChangeAt Go.RowKit

/-- what a function value of one string does: it reads the tokens f x -/
def Does (F : Nat) (caps : Array Value) (m : Nat) (ok : Str → Prop) (f : Str → List Tok) (J : List Tok → World → Prop) : Prop :=
  ∀ (x : Str) (T : List Tok) (w : World), ok x → T.length + x.length ≤ m → J T w → Calls Try.prog F (#[.string (bs x)] ++ caps) w fun e w' => e = .returned (.tuple #[]) ∧ J (T ++ f x) w'
/-- the function has a body -/
def Ent (F : Nat) : Prop := ∀ (args : Array Value) (w : World), Sem.run Try.prog (callFunc F args) w = .ok (.enter F args) w
def EachPost (S : Str) (J : List Tok → World → Prop) (e : Ending) (w' : World) : Prop :=
  (∃ T, tk none S = some T ∧ e = .returned (.int .i64 0) ∧ J T w') ∨ (tk none S = none ∧ e = .returned (.int .i64 3) ∧ ∃ T, J T w')
set_option maxHeartbeats 4000000 in
theorem each_any (S : Str) (F1 F2 : Nat) (c1 c2 : Array Value) (J : List Tok → World → Prop) (w : World) (hS : S.length ≤ 4294967296) (e1 : Ent F1) (e2 : Ent F2)
    (hL : ∀ T w w', J T w → Below w.heap.size w w' → J T w') (hp : Does F1 c1 S.length (fun _ => True) (fun x => x.map Sum.inl) J) (hr : Does F2 c2 S.length (fun n => good n = true) (fun n => [Sum.inr n]) J) (h0 : J [] w) :
    Calls Try.prog 28 #[.string (bs S), .func (.func F1) #[] c1, .func (.func F2) #[] c2] w (EachPost S J) := by
  have HL := Lib.hid hL; clear hL
  have HP := Lib.hid hp; clear hp
  have HR := Lib.hid hr; clear hr
  have HS := Lib.hid hS; clear hS
  have H0 := Lib.hid h0; clear h0
  have E1 := Lib.hid e1; clear e1
  have E2 := Lib.hid e2; clear e2
  go_enter Try.func28, Try.ntmps28
  go_wp2_with fail
  go_loopw [0, 15] (fun v _ wr => ∃ (s : Str) (T : List Tok), v = .string (bs s) ∧ T.length + s.length ≤ S.length ∧ J T wr ∧ tk none S = (tk none s).map (T ++ ·)) (fun v _ _ => match v with | .string b => b.size | _ => 0)
  case atStart => exact ⟨S, [], rfl, by simp, H0.out, by cases tk none S <;> simp⟩
  case round =>
    obtain ⟨s, T, rfl, hl, hj, ht⟩ := hrel
    have A1 := Lib.hid hl; clear hl
    have A2 := Lib.hid hj; clear hj
    have A3 := Lib.hid ht; clear ht
    go_wp2_with fail
    refine (cut_any s 36 _ (by have := A1.out; have := HS.out; omega)).mono ?_
    rintro e w1 ⟨hb, (⟨h2, rfl⟩ | ⟨a, b, rfl, h2, rfl⟩)⟩
    · have J1 := Lib.hid (HL.out _ _ _ A2.out hb); clear hb A2
      have H2 := Lib.hid h2; clear h2
      go_wp2_with fail
      rw [E1.out, Oper.upon_enter]
      refine (HP.out s T _ trivial A1.out J1.out).mono ?_
      rintro e w2 ⟨rfl, j2⟩
      have J2 := Lib.hid j2; clear j2
      go_wp2
      go_ret
      exact .inl ⟨_, by rw [A3.out, tk_flat s H2.out]; rfl, rfl, J2.out⟩
    · have J1 := Lib.hid (HL.out _ _ _ A2.out hb); clear hb A2
      have H2 := Lib.hid h2; clear h2
      have LE : Hid (T.length + a.length + 1 + b.length ≤ S.length) := by have := A1.out; rw [List.length_append, List.length_cons] at this; show _ ≤ _; omega
      have TK : Hid (tk none S = (tk (some none) b).map ((T ++ a.map Sum.inl) ++ ·)) := by
        show _ = _
        rw [A3.out, tk_plain _ a H2.out, tk_dollar]
        cases tk (some none) b <;> simp
      clear A1 A3
      go_wp2_with fail
      rw [E1.out, Oper.upon_enter]
      refine (HP.out a T _ trivial (by have := LE.out; omega) J1.out).mono ?_
      rintro e w2 ⟨rfl, j2⟩
      have J2 := Lib.hid j2; clear j2 J1
      go_wp2_with fail
      refine (pre_any b 36 _).mono ?_
      rintro e w3 ⟨rfl, (⟨h3, rfl⟩ | ⟨r, rfl, rfl⟩)⟩
      · have H3 := Lib.hid h3; clear h3
        go_wp2_with fail
        refine (ref_any b _ (by have := LE.out; have := HS.out; omega)).mono ?_
        rintro e w4 ⟨hb, (⟨n, r, rfl, h4, h5, rfl⟩ | ⟨h4, x, y, rfl⟩)⟩
        · have J3 := Lib.hid (HL.out _ _ _ J2.out hb); clear hb J2
          have H4 := Lib.hid h4; clear h4
          have H5 := Lib.hid h5; clear h5
          have LN : Hid (T.length + a.length + n.length + r.length + 3 ≤ S.length) := by have := LE.out; rw [List.length_cons, List.length_append, List.length_cons] at this; show _ ≤ _; omega
          clear LE
          go_wp2_with fail
          rw [E2.out, Oper.upon_enter]
          refine (HR.out n _ _ H5.out (by rw [List.length_append, List.length_map]; have := LN.out; omega) J3.out).mono ?_
          rintro e w5 ⟨rfl, j4⟩
          have J4 := Lib.hid j4; clear j4 J3
          go_wp2
          go_roundw
          case rel =>
            refine ⟨r, _, rfl, ?_, J4.out, ?_⟩
            · rw [List.length_append, List.length_append, List.length_map, List.length_singleton]; have := LN.out; omega
            · rw [TK.out, tk_par, tk_in _ _ _ H4.out, List.nil_append, if_pos H5.out]
              cases tk none r <;> simp
          case measure => simp only [bs_size]; rw [List.length_append, List.length_cons, List.length_cons, List.length_append, List.length_cons]; omega
        · have J3 := Lib.hid (HL.out _ _ _ J2.out hb); clear hb J2
          have H4 := Lib.hid (h4 H3.out); clear h4
          go_wp2
          go_ret
          exact .inr ⟨by rw [TK.out, H4.out]; rfl, rfl, _, J3.out⟩
      · have LN : Hid (T.length + a.length + r.length + 2 ≤ S.length) := by have := LE.out; rw [List.length_cons] at this; show _ ≤ _; omega
        clear LE
        go_wp2_with fail
        rw [E1.out, Oper.upon_enter]
        refine (HP.out [36] _ _ trivial (by rw [List.length_append, List.length_map, List.length_singleton]; have := LN.out; omega) J2.out).mono ?_
        rintro e w5 ⟨rfl, j4⟩
        have J4 := Lib.hid j4; clear j4 J2
        go_wp2
        go_roundw
        case rel =>
          refine ⟨r, _, rfl, ?_, J4.out, ?_⟩
          · rw [List.length_append, List.length_append, List.length_map, List.map_singleton, List.length_singleton]; have := LN.out; omega
          · rw [TK.out, tk_two]
            cases tk none r <;> simp
        case measure => simp only [bs_size]; rw [List.length_append, List.length_cons, List.length_cons]; omega
end Go.Proofs.Ytoinflfibofofaa
