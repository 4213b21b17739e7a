/-
  Proved: Merge is commutative and idempotent (law NameMerge answers true). No condition.
-/
import Derived.Test.YtpfpcjgbjfpbbaaNMergeB
namespace Go.Proofs.Ytpfpcjgbjfpbbaa.nameMerge
open Go.ChangeShapes Go.WideShapes Go.ChangeAt Go.RowKit
set_option linter.unusedVariables false

theorem all_swap (a b : List Str) : (a ++ b).all good = (b ++ a).all good := by rw [List.all_append, List.all_append, Bool.and_comm]
theorem uniq_swap (a b : List Str) : uniq (a ++ b) = uniq (b ++ a) := uniq_congr fun x => by rw [List.mem_append, List.mem_append, or_comm]
theorem uniq_twice (a : List Str) : uniq (uniq a ++ uniq a) = uniq a := up_ext (uniq_up _) (uniq_up _) fun x => by rw [uniq_mem, List.mem_append, or_self]

set_option maxHeartbeats 4000000 in
set_option maxRecDepth 100000 in
theorem walk (v0 : Value) (z0 : List Str) (v1 : Value) (z1 : List Str) (w : World) (w0 : SIn w v0 z0 ∧ z0.length ≤ 8796093022208) (w1 : SIn w v1 z1 ∧ z1.length ≤ 8796093022208) :
    Calls Try.prog 5 #[v0, v1] w fun e w' => e = .returned (.bool true) ∧ Below w.heap.size w w' := by
  have W0 := Lib.hid w0; clear w0
  have W1 := Lib.hid w1; clear w1
  have EA := Lib.hid (all_swap z1 z0)
  have EU := Lib.hid (uniq_swap z1 z0)
  go_enter Try.func5, Try.ntmps5
  go_wp2_with fail
  refine (names_true _).mono ?_
  rintro e wa ⟨rfl, hg⟩
  have BA := Lib.hid hg; clear hg
  go_wp2_with fail
  refine (merge_any (W0.out.1.later BA.out) (W1.out.1.later BA.out) (by have := W0.out.2; have := W1.out.2; omega)).mono ?_
  rintro e wb ⟨hbel, h⟩
  have BB := Lib.hid (BA.out.trans (hbel.mono BA.out.size)); clear hbel
  rcases h with ⟨hg, hu, va, rfl, hown⟩ | ⟨hg, hu, rfl⟩ | ⟨hg, rfl⟩
  · have G := Lib.hid hg
    have U := Lib.hid hu
    have IA : Hid (SIn wb va (uniq (z0 ++ z1))) := SIn.own hown (by omega) (small_all (good_uniq hg))
    clear hg hu hown
    go_wp2_with fail
    refine (merge_any (W1.out.1.later BB.out) (W0.out.1.later BB.out) (by have := W0.out.2; have := W1.out.2; omega)).mono ?_
    rintro e wc ⟨hbel, h⟩
    have BC := Lib.hid (BB.out.trans (hbel.mono BB.out.size))
    have IA2 : Hid (SIn wc va (uniq (z0 ++ z1))) := IA.out.later hbel
    clear hbel IA
    rw [EA.out, EU.out] at h
    rcases h with ⟨hg, hu, vb, rfl, hown⟩ | ⟨hg, hu, rfl⟩ | ⟨hg, rfl⟩
    · have IB : Hid (SIn wc vb (uniq (z0 ++ z1))) := SIn.own hown (by omega) (small_all (good_uniq hg))
      clear hg hu hown
      go_wp2_with fail
      refine (merge_any IA2.out IA2.out (by have := U.out; omega)).mono ?_
      rintro e wd ⟨hbel, h⟩
      have BD := Lib.hid (BC.out.trans (hbel.mono BC.out.size))
      have IA3 : Hid (SIn wd va (uniq (z0 ++ z1))) := IA2.out.later hbel
      have IB3 : Hid (SIn wd vb (uniq (z0 ++ z1))) := IB.out.later hbel
      clear hbel IA2 IB
      rw [uniq_twice, List.all_append, good_uniq G.out] at h
      rcases h with ⟨hg, hu, vc, rfl, hown⟩ | ⟨hg, hu, rfl⟩ | ⟨hg, rfl⟩
      · have IC : Hid (SIn wd vc (uniq (z0 ++ z1))) := SIn.own hown (by omega) (small_all (good_uniq G.out))
        clear hg hu hown
        go_wp2_with fail
        refine (equal_of IA3.out IB3.out).mono ?_
        rw [decide_eq_true rfl]
        rintro e we ⟨rfl, q, rfl⟩
        have BQ : Hid (Below wd.heap.size wd (wd.drewN q)) := below_drewN (Below.refl _ _) q
        go_wp2_with fail
        refine (equal_of (IA3.out.later BQ.out) (IC.out.later BQ.out)).mono ?_
        rw [decide_eq_true rfl]
        rintro e wf ⟨rfl, q2, rfl⟩
        go_wp2
        go_ret
        exact ⟨rfl, below_drewN BD.out (q + q2)⟩
      · have := U.out; omega
      · cases hg
    · have := U.out; omega
    · rw [G.out] at hg; cases hg
  · have G := Lib.hid hg
    have U := Lib.hid hu
    clear hg hu
    go_wp2_with fail
    refine (merge_any (W1.out.1.later BB.out) (W0.out.1.later BB.out) (by have := W0.out.2; have := W1.out.2; omega)).mono ?_
    rintro e wc ⟨hbel, h⟩
    have BC := Lib.hid (BB.out.trans (hbel.mono BB.out.size))
    clear hbel
    rw [EA.out, EU.out] at h
    rcases h with ⟨hg, hu, vb, rfl, hown⟩ | ⟨hg, hu, rfl⟩ | ⟨hg, rfl⟩
    · have := U.out; omega
    · clear hg hu
      go_wp2
      go_ret
      exact ⟨rfl, BC.out⟩
    · rw [G.out] at hg; cases hg
  · have G := Lib.hid hg
    clear hg
    go_wp2_with fail
    refine (merge_any (W1.out.1.later BB.out) (W0.out.1.later BB.out) (by have := W0.out.2; have := W1.out.2; omega)).mono ?_
    rintro e wc ⟨hbel, h⟩
    have BC := Lib.hid (BB.out.trans (hbel.mono BB.out.size))
    clear hbel
    rw [EA.out, EU.out] at h
    rcases h with ⟨hg, hu, vb, rfl, hown⟩ | ⟨hg, hu, rfl⟩ | ⟨hg, rfl⟩
    · rw [G.out] at hg; cases hg
    · rw [G.out] at hg; cases hg
    · clear hg
      go_wp2
      go_ret
      exact ⟨rfl, BC.out⟩

theorem own : ownKnob Try.prog.godebug = none := by kernel_rfl
theorem laidOut : laidOutB Try.prog = true := by kernel_rfl

set_option maxRecDepth 100000 in
theorem lifted (os : Os) (started : os.Started) (H : Type) (enc : TypeId × Value → H) :
    ReturnsInHanded {} Try.checked os 5 .any (Rows.nameMergeSpec.pre6 enc Try.prog Try.f5 Rows.nameMergeRow.domain false) (Rows.nameMergeSpec.post enc Try.prog Try.f5 false true false false) := by
  refine returnsInHanded_of_change_sized (C := Try.checked) own started (by kernel_rfl) Try.func5
    (ChangeSpec.witness6 (enc := enc) (C := Try.checked) false ⟨#[], #[.slice none 0 0, .slice none 0 0], []⟩ 8 (by kernel_rfl) (by kernel_rfl) (by kernel_rfl) (by kernel_rfl)) ?_
  intro W base args ds gs before hval0 hW hcnd hsz0 _
  have hval : ∀ (j : Nat) t v, Try.f5.params[j]? = some t → args[j]? = some v → Value.okWide Try.prog W .any base t v := hval0
  have hW' := hW
  obtain ⟨p, q, hA0, hV, rfl, hfz, hnd⟩ := hW
  have hA : DataW.TrodAll enc Try.prog W 0 (fun _ => true) true Try.f5.params.toList args.toList ds p := hA0
  have hsz : (DataW.weightsEach Try.prog (Try.f5.params.toList ++ Rows.nameMergeSpec.plain.varTypes Try.prog) (ds ++ gs)).all (· ≤ reachBytes) = true := hsz0
  clear hsz0
  rw [Try.params5] at hA hval hsz
  obtain ⟨v0, vs0, d0, ds0, p0, q0, hargs, rfl, rfl, h0, r0⟩ := trodAll_cons hA
  obtain ⟨v1, vs1, d1, ds1, p1, q1, rfl, rfl, rfl, h1, r1⟩ := trodAll_cons r0
  obtain ⟨rfl, rfl, rfl⟩ := trodAll_nil r1
  obtain rfl : args = #[v0, v1] := by cases args; simp_all
  obtain ⟨rfl, rfl⟩ := trodVars_none hV
  have k0 := h0
  have lt0 : ∀ x ∈ p0, x.block < W.heap.size := by obtain ⟨m, hm⟩ := k0; exact DataW.trod_lt m _ _ _ hm
  obtain ⟨z0, w0⟩ := open_strs2 (j := 0) Try.underlying22 Try.underlying9 (by kernel_rfl) (by kernel_rfl) hsz rfl rfl (hval 0 22 v0 rfl rfl) h0
  have k1 := h1
  have lt1 : ∀ x ∈ p1, x.block < W.heap.size := by obtain ⟨m, hm⟩ := k1; exact DataW.trod_lt m _ _ _ hm
  obtain ⟨z1, w1⟩ := open_strs2 (j := 1) Try.underlying22 Try.underlying9 (by kernel_rfl) (by kernel_rfl) hsz rfl rfl (hval 1 22 v1 rfl rfl) h1
  clear hA0 hval0
  refine (walk v0 z0 v1 z1 W w0 w1).mono fun e W' ⟨he, bel⟩ => ?_
  subst he
  exact ⟨_, rfl, _, _, _, [], _, [], hW', trodAll_mk1 (shut_bool Try.underlying4 _), (trodAll_cons_mk (Below.trod laidOut (by kernel_rfl) (of_decide_eq_true (by kernel_rfl)) k0 bel lt0) (trodAll_cons_mk (Below.trod laidOut (by kernel_rfl) (of_decide_eq_true (by kernel_rfl)) k1 bel lt1) trodAll_mk0)), rfl, bel.frame _, fun h => by cases h⟩

theorem over : Rows.nameMergeRow.holds Try.pinned (OpenSpec.ofChange Rows.nameMergeSpec) :=
  OpenClaim.holds_of_wide 5 Try.f5 rfl rfl rfl rfl rfl rfl rfl ⟨rfl, rfl, rfl, rfl, rfl⟩ rfl rfl rfl rfl rfl (by kernel_rfl) Try.func5 (by kernel_rfl)
    (of_decide_eq_true (by kernel_rfl)) (by unfold Func.isWrapper; first | (rw [if_pos (by decide +kernel)]; kernel_rfl) | (rw [if_neg (by decide +kernel)]; exact ⟨rfl, rfl⟩))
    (fun os started H enc _ => lifted os started H enc)

theorem proved : Rows.NameMergeSaid :=
  over
#print axioms proved
end Go.Proofs.Ytpfpcjgbjfpbbaa.nameMerge
