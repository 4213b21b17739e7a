/-
  Proved: Read restores exactly the bits that Text prints, and Text prints what Read has read (law SpanText answers true). No condition.
-/
import Derived.Test.YtejceacoopgjkaaText
import Derived.Test.YtejceacoopgjkaaRead
import Derived.ShutString
namespace Go.Proofs.Ytejceacoopgjkaa.spanText
open Go.ChangeShapes Go.WideShapes Go.ChangeAt Go.RowKit
open Go.ChangeMaps (open_string shut_string)
set_option linter.unusedVariables false

theorem float_lt {b : Nat} (h : (Lit.float .f64 b).wf = true) : b < 18446744073709551616 := by simpa [Lit.wf] using h

set_option maxHeartbeats 2000000 in
theorem walk (a0 : Nat) (a1 : ByteArray) (w : World) (w0 : a0 < 18446744073709551616) (w1 : a1.size ≤ maxLen) :
    Calls Try.prog 9 #[.float .f64 a0, .string a1] w fun e w' => e = .returned (.bool true) ∧ Below w.heap.size w w' := by
  have hb := fbits
  have W0 := Lib.hid w0; clear w0
  have W1 := Lib.hid w1; clear w1
  go_enter Try.func9, Try.ntmps9
  go_wp2_with fail
  refine (spans_true _).mono ?_
  rintro e wa ⟨rfl, hg⟩
  have HG := Lib.hid hg; clear hg
  go_wp2_with fail
  refine (text_any _ W0.out _).mono ?_
  rintro e wb ⟨rfl, hg⟩
  have HG2 := Lib.hid (HG.out.trans (hg.mono HG.out.size)); clear hg HG
  go_wp2_with fail
  refine (read_16 _ (by exact txt_length a0) _).mono ?_
  rw [rd_txt W0.out]
  rintro e wc (⟨v, hv, rfl, rfl⟩ | ⟨hv, _⟩)
  · cases hv
    generalize txt a0 = q
    by_cases hs : a1.size = 16
    · have HS := Lib.hid hs; clear hs
      go_wp2_with fail
      refine (read_16 _ HS.out _).mono ?_
      rintro e wc (⟨v, hv, rfl, rfl⟩ | ⟨hv, rfl, rfl⟩)
      · have hl : v < 18446744073709551616 := rd_lt 16 v hv
        have HV := Lib.hid hl; clear hl
        have HE := Lib.hid (txt_of HS.out hv); clear hv
        go_wp2_with fail
        refine (text_any _ HV.out _).mono ?_
        rintro e wd ⟨rfl, hg⟩
        have HG3 := Lib.hid (HG2.out.trans (hg.mono HG2.out.size)); clear hg HG2
        rw [← HE.out]
        clear HE HS
        go_wp2
        go_ret
        exact ⟨ret_b (by simp), HG3.out⟩
      · go_wp2
        go_ret
        exact ⟨rfl, HG2.out⟩
    · have HS := Lib.hid hs; clear hs
      go_wp2_with fail
      refine (read_other _ HS.out _).mono ?_
      rintro e wc ⟨rfl, rfl⟩
      go_wp2
      go_ret
      exact ⟨rfl, HG2.out⟩
  · cases hv

theorem own : ownKnob Try.prog.godebug = none := by kernel_rfl
theorem laidOut : laidOutB Try.prog = true := by kernel_rfl

set_option maxRecDepth 100000 in
theorem lifted (os : Os) (started : os.Started) (H : Type) (enc : TypeId × Value → H) :
    ReturnsInHanded {} Try.checked os 9 .any (Rows.spanTextSpec.pre6 enc Try.prog Try.f9 Rows.spanTextRow.domain false) (Rows.spanTextSpec.post enc Try.prog Try.f9 false true false false) := by
  refine returnsInHanded_of_change (C := Try.checked) own started (by kernel_rfl) Try.func9
    (ChangeSpec.witness6 (enc := enc) (C := Try.checked) false ⟨#[], #[.float .f64 0, .string ByteArray.empty], []⟩ 8 (by kernel_rfl) (by kernel_rfl) (by kernel_rfl) (by kernel_rfl)) ?_
  intro W base args ds gs before hval0 hW hcnd _
  have hval : ∀ (j : Nat) t v, Try.f9.params[j]? = some t → args[j]? = some v → Value.okWide Try.prog W .any base t v := hval0
  have hW' := hW
  obtain ⟨p, q, hA0, hV, rfl, hfz, hnd⟩ := hW
  have hA : DataW.TrodAll enc Try.prog W 0 (fun _ => true) true Try.f9.params.toList args.toList ds p := hA0
  rw [Try.params9] at hA hval
  obtain ⟨v0, vs0, d0, ds0, p0, q0, hargs, rfl, rfl, h0, r0⟩ := trodAll_cons hA
  obtain ⟨v1, vs1, d1, ds1, p1, q1, rfl, rfl, rfl, h1, r1⟩ := trodAll_cons r0
  obtain ⟨rfl, rfl, rfl⟩ := trodAll_nil r1
  obtain rfl : args = #[v0, v1] := by cases args; simp_all
  obtain ⟨rfl, rfl⟩ := trodVars_none hV
  obtain ⟨a0, rfl, rfl, rfl, wf0⟩ := open_float Try.underlying22 (hval 0 22 v0 rfl rfl) h0
  have w0 := float_lt wf0
  obtain ⟨a1, rfl, rfl, rfl, w1⟩ := open_string Try.underlying9 (hval 1 9 v1 rfl rfl) h1
  clear hA0 hval0
  refine (walk a0 a1 W w0 w1).mono fun e W' ⟨he, bel⟩ => ?_
  subst he
  exact ⟨_, rfl, _, _, _, [], _, [], hW', trodAll_mk1 (shut_bool Try.underlying4 _), (trodAll_cons_mk (shut_float Try.underlying22 wf0) (trodAll_cons_mk (shut_string Try.underlying9 w1) trodAll_mk0)), rfl, bel.frame _, fun h => by cases h⟩

theorem over : Rows.spanTextRow.holds Try.pinned (OpenSpec.ofChange Rows.spanTextSpec) :=
  OpenClaim.holds_of_wide 9 Try.f9 rfl rfl rfl rfl rfl rfl rfl ⟨rfl, rfl, rfl, rfl, rfl⟩ rfl rfl rfl rfl rfl (by kernel_rfl) Try.func9 (by kernel_rfl)
    (of_decide_eq_true (by kernel_rfl)) (by unfold Func.isWrapper; first | (rw [if_pos (by decide +kernel)]; kernel_rfl) | (rw [if_neg (by decide +kernel)]; exact ⟨rfl, rfl⟩))
    (fun os started H enc _ => lifted os started H enc)

theorem proved : Rows.SpanTextSaid :=
  over
#print axioms proved
end Go.Proofs.Ytejceacoopgjkaa.spanText
