/-
  Proved: Whole, Text and Read return what the reference returns (law SpanReads answers true). No condition.
-/
import Derived.Test.YtejceacoopgjkaaWPart
import Derived.Test.YtejceacoopgjkaaText
import Derived.Test.YtejceacoopgjkaaHex
import Derived.ShutString
namespace Go.Proofs.Ytejceacoopgjkaa.spanReads
open Go.ChangeShapes Go.WideShapes Go.ChangeAt Go.RowKit
open Go.ChangeMaps (open_string shut_string)
set_option linter.unusedVariables false

theorem float_lt {b : Nat} (h : (Lit.float .f64 b).wf = true) : b < 18446744073709551616 := by simpa [Lit.wf] using h

/-- what Read and HexRead hand back at one and the same string -/
theorem both (s : ByteArray) (w : World) : ∃ r : Option Nat, Calls Try.prog 24 #[.string s] w (ReadPost r w) ∧ Calls Try.prog 25 #[.string s] w (HexPost r w) := by
  by_cases h : s.size = 16
  · exact ⟨_, read_16 s h w, hexRead_16 s h w⟩
  · exact ⟨none, (read_other s h w).mono fun e w' k => .inr ⟨rfl, k.1, k.2⟩, (hexRead_other s h w).mono fun e w' k => .inr ⟨rfl, k.1, k.2⟩⟩

set_option maxHeartbeats 2000000 in
/-- behind the four readings -/
theorem walk (a0 : Nat) (a1 : ByteArray) (w : World) (w0 : a0 < 18446744073709551616) (w1 : a1.size ≤ maxLen) :
    Calls Try.prog 4 #[.float .f64 a0, .string a1] w fun e w' => e = .returned (.bool true) ∧ Below w.heap.size w w' := by
  obtain ⟨r, b1, b2⟩ := both a1 w
  have B1 := Lib.hid b1; clear b1
  have B2 := Lib.hid b2; clear b2
  have W0 := Lib.hid w0; clear w0
  clear w1
  go_enter Try.func4, Try.ntmps4
  go_wp2_with fail
  refine (whole_any _ W0.out _).mono ?_
  rintro e w' (⟨hk, rfl, rfl⟩ | ⟨hk, rfl, rfl⟩)
  · have HK := Lib.hid hk; clear hk
    go_wp2_with fail
    refine (part_any _ W0.out _).mono ?_
    rintro e w' (⟨hk, rfl, rfl⟩ | ⟨hk, rfl, rfl⟩)
    · clear hk HK
      generalize wh a0 = n
      go_wp2_with fail
      refine B1.out.mono ?_
      clear B1
      rintro e w' (⟨v, rfl, rfl, rfl⟩ | ⟨rfl, rfl, rfl⟩)
      · go_wp2_with fail
        refine B2.out.mono ?_
        clear B2
        rintro e w' (⟨v', hv, rfl, rfl⟩ | ⟨hv, _⟩)
        · cases hv
          go_wp2_with fail
          refine (text_any _ W0.out _).mono ?_
          rintro e w' ⟨rfl, hg⟩
          have HG := Lib.hid hg; clear hg
          go_wp2_with fail
          refine (bits_any _ _).mono ?_
          rintro e w'' ⟨rfl, rfl⟩
          go_wp2_with fail
          refine (hex_any _ W0.out _).mono ?_
          rintro e w'' ⟨rfl, rfl⟩
          generalize txt a0 = q
          go_wp2_with fail
          refine (bits_any _ _).mono ?_
          rintro e w'' ⟨rfl, rfl⟩
          go_wp2
          go_ret
          exact ⟨ret_b (by simp), HG.out⟩
        · cases hv
      · go_wp2_with fail
        refine B2.out.mono ?_
        clear B2
        rintro e w' (⟨v', hv, _⟩ | ⟨hv, rfl, rfl⟩)
        · cases hv
        · go_wp2_with fail
          refine (text_any _ W0.out _).mono ?_
          rintro e w' ⟨rfl, hg⟩
          have HG := Lib.hid hg; clear hg
          go_wp2_with fail
          refine (bits_any _ _).mono ?_
          rintro e w'' ⟨rfl, rfl⟩
          go_wp2_with fail
          refine (hex_any _ W0.out _).mono ?_
          rintro e w'' ⟨rfl, rfl⟩
          generalize txt a0 = q
          go_wp2_with fail
          refine (sameBits_any _ _ _).mono ?_
          rintro e w'' ⟨rfl, rfl⟩
          go_wp2
          go_ret
          exact ⟨rfl, HG.out⟩
    · exact absurd hk (by have := HK.out; omega)
  · have HK := Lib.hid hk; clear hk
    go_wp2_with fail
    refine (part_any _ W0.out _).mono ?_
    rintro e w' (⟨hk, rfl, rfl⟩ | ⟨hk, rfl, rfl⟩)
    · exact absurd hk (by have := HK.out; omega)
    · clear hk HK
      go_wp2_with fail
      refine B1.out.mono ?_
      clear B1
      rintro e w' (⟨v, rfl, rfl, rfl⟩ | ⟨rfl, rfl, rfl⟩)
      · go_wp2_with fail
        refine B2.out.mono ?_
        clear B2
        rintro e w' (⟨v', hv, rfl, rfl⟩ | ⟨hv, _⟩)
        · cases hv
          go_wp2_with fail
          refine (text_any _ W0.out _).mono ?_
          rintro e w' ⟨rfl, hg⟩
          have HG := Lib.hid hg; clear hg
          go_wp2_with fail
          refine (bits_any _ _).mono ?_
          rintro e w'' ⟨rfl, rfl⟩
          go_wp2_with fail
          refine (hex_any _ W0.out _).mono ?_
          rintro e w'' ⟨rfl, rfl⟩
          generalize txt a0 = q
          go_wp2_with fail
          refine (bits_any _ _).mono ?_
          rintro e w'' ⟨rfl, rfl⟩
          go_wp2
          go_ret
          exact ⟨ret_b (by simp), HG.out⟩
        · cases hv
      · go_wp2_with fail
        refine B2.out.mono ?_
        clear B2
        rintro e w' (⟨v', hv, _⟩ | ⟨hv, rfl, rfl⟩)
        · cases hv
        · go_wp2_with fail
          refine (text_any _ W0.out _).mono ?_
          rintro e w' ⟨rfl, hg⟩
          have HG := Lib.hid hg; clear hg
          go_wp2_with fail
          refine (bits_any _ _).mono ?_
          rintro e w'' ⟨rfl, rfl⟩
          go_wp2_with fail
          refine (hex_any _ W0.out _).mono ?_
          rintro e w'' ⟨rfl, rfl⟩
          generalize txt a0 = q
          go_wp2_with fail
          refine (sameBits_any _ _ _).mono ?_
          rintro e w'' ⟨rfl, rfl⟩
          go_wp2
          go_ret
          exact ⟨rfl, HG.out⟩

theorem own : ownKnob Try.prog.godebug = none := by kernel_rfl
theorem laidOut : laidOutB Try.prog = true := by kernel_rfl

set_option maxRecDepth 100000 in
theorem lifted (os : Os) (started : os.Started) (H : Type) (enc : TypeId × Value → H) :
    ReturnsInHanded {} Try.checked os 4 .any (Rows.spanReadsSpec.pre6 enc Try.prog Try.f4 Rows.spanReadsRow.domain false) (Rows.spanReadsSpec.post enc Try.prog Try.f4 false true false false) := by
  refine returnsInHanded_of_change (C := Try.checked) own started (by kernel_rfl) Try.func4
    (ChangeSpec.witness6 (enc := enc) (C := Try.checked) false ⟨#[], #[.float .f64 0, .string ByteArray.empty], []⟩ 8 (by kernel_rfl) (by kernel_rfl) (by kernel_rfl) (by kernel_rfl)) ?_
  intro W base args ds gs before hval0 hW hcnd _
  have hval : ∀ (j : Nat) t v, Try.f4.params[j]? = some t → args[j]? = some v → Value.okWide Try.prog W .any base t v := hval0
  have hW' := hW
  obtain ⟨p, q, hA0, hV, rfl, hfz, hnd⟩ := hW
  have hA : DataW.TrodAll enc Try.prog W 0 (fun _ => true) true Try.f4.params.toList args.toList ds p := hA0
  rw [Try.params4] at hA hval
  obtain ⟨v0, vs0, d0, ds0, p0, q0, hargs, rfl, rfl, h0, r0⟩ := trodAll_cons hA
  obtain ⟨v1, vs1, d1, ds1, p1, q1, rfl, rfl, rfl, h1, r1⟩ := trodAll_cons r0
  obtain ⟨rfl, rfl, rfl⟩ := trodAll_nil r1
  obtain rfl : args = #[v0, v1] := by cases args; simp_all
  obtain ⟨rfl, rfl⟩ := trodVars_none hV
  obtain ⟨a0, rfl, rfl, rfl, wf0⟩ := open_float Try.underlying22 (hval 0 22 v0 rfl rfl) h0
  have w0 := float_lt wf0
  obtain ⟨a1, rfl, rfl, rfl, w1⟩ := open_string Try.underlying9 (hval 1 9 v1 rfl rfl) h1
  clear hA0 hval0
  refine (walk a0 a1 W w0 w1).mono fun e W' ⟨he, bel⟩ => ?_
  subst he
  exact ⟨_, rfl, _, _, _, [], _, [], hW', trodAll_mk1 (shut_bool Try.underlying4 _), (trodAll_cons_mk (shut_float Try.underlying22 wf0) (trodAll_cons_mk (shut_string Try.underlying9 w1) trodAll_mk0)), rfl, bel.frame _, fun h => by cases h⟩

theorem over : Rows.spanReadsRow.holds Try.pinned (OpenSpec.ofChange Rows.spanReadsSpec) :=
  OpenClaim.holds_of_wide 4 Try.f4 rfl rfl rfl rfl rfl rfl rfl ⟨rfl, rfl, rfl, rfl, rfl⟩ rfl rfl rfl rfl rfl (by kernel_rfl) Try.func4 (by kernel_rfl)
    (of_decide_eq_true (by kernel_rfl)) (by unfold Func.isWrapper; first | (rw [if_pos (by decide +kernel)]; kernel_rfl) | (rw [if_neg (by decide +kernel)]; exact ⟨rfl, rfl⟩))
    (fun os started H enc _ => lifted os started H enc)

theorem proved : Rows.SpanReadsSaid :=
  over
#print axioms proved
end Go.Proofs.Ytejceacoopgjkaa.spanReads
