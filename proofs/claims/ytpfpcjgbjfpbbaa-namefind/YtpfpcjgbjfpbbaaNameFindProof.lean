/-
  Proved: Find finds exactly the names in the list, at their indices (law NameFind answers true). No condition.
-/
import Derived.Test.YtpfpcjgbjfpbbaaNFind
import Derived.ShutString
namespace Go.Proofs.Ytpfpcjgbjfpbbaa.nameFind
open Go.ChangeShapes Go.WideShapes Go.ChangeAt Go.RowKit
open Go.ChangeMaps (open_string shut_string)
set_option linter.unusedVariables false

theorem small_good {z : List Str} (h : z.all good = true) : ∀ x ∈ uniq z, x.length ≤ 9223372036854775807 := fun x hx => by
  have := good_len (List.all_eq_true.1 h x (uniq_mem.1 hx))
  omega

set_option maxHeartbeats 2000000 in
theorem walk (v0 : Value) (z0 : List Str) (a1 : ByteArray) (w : World) (w0 : SIn w v0 z0) (w1 : a1.size ≤ maxLen) :
    Calls Try.prog 6 #[v0, .string a1] w fun e w' => e = .returned (.bool true) ∧ Below w.heap.size w w' := by
  have W0 := Lib.hid w0; clear w0 w1
  obtain ⟨x, rfl⟩ : ∃ x, a1 = bs x := ⟨_, (bs_of a1).symm⟩
  go_enter Try.func6, Try.ntmps6
  go_wp2_with fail
  refine (names_true _).mono ?_
  rintro e wa ⟨rfl, hg⟩
  have HG := Lib.hid hg; clear hg
  go_wp2_with fail
  refine (sort_any (W0.out.later HG.out)).mono ?_
  rintro e wb (⟨hgood, v, rfl, hown, hbel⟩ | ⟨hbad, rfl, rfl⟩)
  · have HIN : Hid (SIn wb v (uniq z0)) := SIn.own hown (by have := uniq_le z0; have := W0.out.bound; omega) (small_good hgood)
    have HB := Lib.hid (HG.out.trans (hbel.mono HG.out.size)); clear hbel hown hgood
    go_wp2_with fail
    refine (find_of HIN.out (uniq_up z0) x).mono ?_
    rintro e wc ⟨⟨i, hi, hx, rfl⟩ | ⟨hx, rfl⟩, q, rfl⟩
    · have hpos : 0 < (uniq z0).length := by omega
      have hbd := HIN.out.bound
      rcases HIN.out.open with ⟨hz, _⟩ | ⟨_, b, off, cap, rfl, _, _, hc⟩
      · rw [hz] at hi; exact absurd hi (Nat.not_lt_zero _)
      · have c0 := hc i hi
        rw [hx] at c0
        clear hc hx HIN
        generalize (uniq z0).length = n at *
        go_wp2
        go_ret
        exact ⟨ret_b (by simp), below_drewN HB.out q⟩
    · have HX : Hid (decide (x ∈ uniq z0) = false) := decide_eq_false hx
      clear hx
      go_wp2_with fail
      refine (contains_of (HIN.out.later (below_drewN (Below.refl _ _) q)) x).mono ?_
      rw [HX.out]
      rintro e wd ⟨rfl, rfl⟩
      go_wp2
      go_ret
      exact ⟨rfl, below_drewN HB.out q⟩
  · clear hbad
    go_wp2
    go_ret
    exact ⟨rfl, HG.out⟩

theorem own : ownKnob Try.prog.godebug = none := by kernel_rfl
theorem laidOut : laidOutB Try.prog = true := by kernel_rfl

set_option maxRecDepth 100000 in
theorem lifted (os : Os) (started : os.Started) (H : Type) (enc : TypeId × Value → H) :
    ReturnsInHanded {} Try.checked os 6 .any (Rows.nameFindSpec.pre6 enc Try.prog Try.f6 Rows.nameFindRow.domain false) (Rows.nameFindSpec.post enc Try.prog Try.f6 false true false false) := by
  refine returnsInHanded_of_change_sized (C := Try.checked) own started (by kernel_rfl) Try.func6
    (ChangeSpec.witness6 (enc := enc) (C := Try.checked) false ⟨#[], #[.slice none 0 0, .string ByteArray.empty], []⟩ 8 (by kernel_rfl) (by kernel_rfl) (by kernel_rfl) (by kernel_rfl)) ?_
  intro W base args ds gs before hval0 hW hcnd hsz0 _
  have hval : ∀ (j : Nat) t v, Try.f6.params[j]? = some t → args[j]? = some v → Value.okWide Try.prog W .any base t v := hval0
  have hW' := hW
  obtain ⟨p, q, hA0, hV, rfl, hfz, hnd⟩ := hW
  have hA : DataW.TrodAll enc Try.prog W 0 (fun _ => true) true Try.f6.params.toList args.toList ds p := hA0
  have hsz : (DataW.weightsEach Try.prog (Try.f6.params.toList ++ Rows.nameFindSpec.plain.varTypes Try.prog) (ds ++ gs)).all (· ≤ reachBytes) = true := hsz0
  clear hsz0
  rw [Try.params6] at hA hval hsz
  obtain ⟨v0, vs0, d0, ds0, p0, q0, hargs, rfl, rfl, h0, r0⟩ := trodAll_cons hA
  obtain ⟨v1, vs1, d1, ds1, p1, q1, rfl, rfl, rfl, h1, r1⟩ := trodAll_cons r0
  obtain ⟨rfl, rfl, rfl⟩ := trodAll_nil r1
  obtain rfl : args = #[v0, v1] := by cases args; simp_all
  obtain ⟨rfl, rfl⟩ := trodVars_none hV
  have k0 := h0
  have lt0 : ∀ x ∈ p0, x.block < W.heap.size := by obtain ⟨m, hm⟩ := k0; exact DataW.trod_lt m _ _ _ hm
  obtain ⟨z0, w0⟩ := open_strs (j := 0) Try.underlying22 Try.underlying9 (by kernel_rfl) (by kernel_rfl) hsz rfl rfl (hval 0 22 v0 rfl rfl) h0
  obtain ⟨a1, rfl, rfl, rfl, w1⟩ := open_string Try.underlying9 (hval 1 9 v1 rfl rfl) h1
  clear hA0 hval0
  refine (walk v0 z0 a1 W w0 w1).mono fun e W' ⟨he, bel⟩ => ?_
  subst he
  exact ⟨_, rfl, _, _, _, [], _, [], hW', trodAll_mk1 (shut_bool Try.underlying4 _), (trodAll_cons_mk (Below.trod laidOut (by kernel_rfl) (of_decide_eq_true (by kernel_rfl)) k0 bel lt0) (trodAll_cons_mk (shut_string Try.underlying9 w1) trodAll_mk0)), rfl, bel.frame _, fun h => by cases h⟩

theorem over : Rows.nameFindRow.holds Try.pinned (OpenSpec.ofChange Rows.nameFindSpec) :=
  OpenClaim.holds_of_wide 6 Try.f6 rfl rfl rfl rfl rfl rfl rfl ⟨rfl, rfl, rfl, rfl, rfl⟩ rfl rfl rfl rfl rfl (by kernel_rfl) Try.func6 (by kernel_rfl)
    (of_decide_eq_true (by kernel_rfl)) (by unfold Func.isWrapper; first | (rw [if_pos (by decide +kernel)]; kernel_rfl) | (rw [if_neg (by decide +kernel)]; exact ⟨rfl, rfl⟩))
    (fun os started H enc _ => lifted os started H enc)

theorem proved : Rows.NameFindSaid :=
  over
#print axioms proved
end Go.Proofs.Ytpfpcjgbjfpbbaa.nameFind
