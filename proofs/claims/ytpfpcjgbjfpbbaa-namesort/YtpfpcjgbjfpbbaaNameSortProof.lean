/-
  Proved: Sort is idempotent and returns every name once (law NameSort answers true). No condition.
-/
import Derived.Test.YtpfpcjgbjfpbbaaNFind
import Derived.Laws.Cover1
namespace Go.Proofs.Ytpfpcjgbjfpbbaa.nameSort
open Go.ChangeShapes Go.WideShapes Go.ChangeAt Go.RowKit
set_option linter.unusedVariables false

theorem good_uniq {z : List Str} (h : z.all good = true) : (uniq z).all good = true := by
  rw [List.all_eq_true]
  exact fun x hx => List.all_eq_true.1 h x (uniq_mem.1 hx)
theorem small_all {z : List Str} (h : z.all good = true) : ∀ x ∈ z, x.length ≤ 9223372036854775807 := fun x hx => by
  have := good_len (List.all_eq_true.1 h x hx)
  omega

set_option maxHeartbeats 1000000 in
theorem closure (g : Nat) (a : Option Addr) (n cap : Nat) (z : List Str) (x : Str) (w : World) (hc : w.cell? ⟨g, 0, none⟩ = some (.slice a n cap)) (hin : SIn w (.slice a n cap) z) :
    Calls Try.prog 23 #[.string (bs x), .pointer (some ⟨g, 0, none⟩)] w fun e w' => e = .returned (.bool (!decide (x ∈ z))) ∧ w' = w := by
  have HI := Lib.hid hin; clear hin
  go_enter Try.func23, Try.ntmps23
  go_wp2_with fail
  obtain ⟨q, hq⟩ : ∃ q, decide (x ∈ z) = q := ⟨_, rfl⟩
  have HQ := Lib.hid hq; clear hq
  refine (contains_of HI.out x).mono ?_
  rw [HQ.out]
  rintro e w' ⟨rfl, rfl⟩
  go_wp2
  go_ret
  rw [HQ.out]
  exact ⟨rfl, rfl⟩

theorem containsF_of {w : World} {v : Value} {z : List Str} (h : SIn w v z) (g : Nat) (a : Option Addr) (n cap : Nat) (u : List Str) (hc : w.cell? ⟨g, 0, none⟩ = some (.slice a n cap)) (hg : g < w.heap.size) (hin : SIn w (.slice a n cap) u) (hsub : ∀ x ∈ z, x ∈ u) :
    Calls Try.prog 22 #[v, .func (.func 23) #[] #[.pointer (some ⟨g, 0, none⟩)]] w fun e w' => e = .returned (.bool false) ∧ ∃ q, w' = w.drewN q := by
  rcases h.open with ⟨rfl, a', cap', rfl⟩ | ⟨_, b, off, cap', rfl, _, _, hcs⟩
  · have := AnyE.slices_ContainsFunc_empty (P := Try.prog) (ρ := containsFL_ren) containsFL a' cap' (.func (.func 23) #[] #[.pointer (some ⟨g, 0, none⟩)]) w
    exact Calls.mono (show Calls Try.prog 22 _ _ _ from this) fun e w' k => ⟨k.1, 0, k.2⟩
  · have hn := h.bound
    have eg : ∀ args w, (callFunc 23 args).run Try.prog w = .ok (.enter 23 args) w := enters_of Try.func23 (by kernel_rfl) rfl
    have hp : PredAt Try.prog 23 #[.pointer (some ⟨g, 0, none⟩)] encStr (fun x => !decide (x ∈ u)) w := fun W x hb =>
      (closure g a n cap u x W (by rw [hb.cell hg]; exact hc) (hin.later hb)).mono fun e w' k => ⟨k.1, 0, k.2⟩
    have := AnyE.slices_ContainsFunc containsFL encStr (fun x => !decide (x ∈ u)) 23 #[.pointer (some ⟨g, 0, none⟩)] eg b off z.length cap' z w hp (Nat.le_refl _) (by omega) (fun j hj => by rw [hcs j hj, bang_getD z j hj]; rfl)
    refine Calls.mono (show Calls Try.prog 22 _ _ _ from this) ?_
    rintro e w' ⟨rfl, q, rfl⟩
    refine ⟨ret_b ?_, q, rfl⟩
    rw [List.take_length, List.any_eq_false]
    intro x hx
    simp [hsub x hx]

set_option maxRecDepth 100000 in
set_option maxHeartbeats 4000000 in
theorem walk (v0 : Value) (z0 : List Str) (w : World) (w0 : SIn w v0 z0) :
    Calls Try.prog 4 #[v0] w fun e w' => e = .returned (.bool true) ∧ Below w.heap.size w w' := by
  have W0 := Lib.hid w0; clear w0
  go_enter Try.func4, Try.ntmps4
  go_wp2_with fail
  refine (names_true _).mono ?_
  rintro e wa ⟨rfl, hg⟩
  have HG := Lib.hid hg; clear hg
  go_wp2_with fail
  refine (sort_any (W0.out.later HG.out)).mono ?_
  rintro e wb (⟨hgood, v, rfl, hown, hbel⟩ | ⟨hbad, rfl, rfl⟩)
  · have HIN : Hid (SIn wb v (uniq z0)) := SIn.own hown (by have := uniq_le z0; have := W0.out.bound; omega) (small_all (good_uniq hgood))
    have HGD : Hid ((uniq z0).all good = true) := good_uniq hgood
    have HB := Lib.hid (HG.out.trans (hbel.mono HG.out.size)); clear hbel hown hgood HG
    have hn := HIN.out.bound
    have HO := Lib.hid HIN.out.open
    obtain ⟨a, cap, rfl, _⟩ := id HIN.out
    generalize hL : (uniq z0).length = n at *
    have HL := Lib.hid hL; clear hL
    go_wp2_with fail
    have HB1 : Hid (Below wb.heap.size wb (wb.alloc (Obj.cells #[Value.slice a n cap] 22))) := (Below.refl _ wb).alloc (Nat.le_refl _) _
    refine (sort_any (HIN.out.later HB1.out)).mono ?_
    rintro e w2 (⟨_, v2, rfl, hown, hbel⟩ | ⟨hbad, _⟩)
    · rw [uniq_self (uniq_up z0)] at hown
      have HB2 : Hid (Below wb.heap.size wb w2) := HB1.out.trans (hbel.mono (by simp))
      have c3 : w2.cell? ⟨wb.heap.size, 0, none⟩ = some (.slice a n cap) := by rw [hbel.cell (by simp)]; simp
      have HIN2 : Hid (SIn w2 (.slice a n cap) (uniq z0)) := HIN.out.later HB2.out
      have HV2 : Hid (SIn w2 v2 (uniq z0)) := SIn.own hown (by rw [HL.out]; exact hn) (small_all HGD.out)
      have HZ : Hid (SIn w2 v0 z0) := W0.out.later (HB.out.trans (HB2.out.mono HB.out.size))
      have HW : Hid (Below w.heap.size w w2) := HB.out.trans (HB2.out.mono HB.out.size)
      have HS : Hid (wb.heap.size < w2.heap.size) := by have := hbel.size; simp at this; show _ < _; omega
      have HBB := Lib.hid HB2.out
      clear hbel hown HB1 HIN HB HB2 W0
      have OP : Hid ((n = 0 ∧ True) ∨ (0 < n ∧ ∃ b off, a = some ⟨b, off, none⟩ ∧ ∀ k, k < n → w2.cell? ⟨b, off + k, none⟩ = some (.string (bs ((uniq z0).getD k []))))) := by
        rcases HO.out with ⟨hz, _⟩ | ⟨hp, b, off, cap', e, _, hlt, hc⟩
        · left; exact ⟨by rw [← HL.out, hz]; rfl, trivial⟩
        · right
          cases e
          exact ⟨hp, b, off, rfl, fun k hk => cell_later HBB.out (hc k hk)⟩
      clear HO HBB
      generalize wb.heap.size = g at *
      have eC : ∀ args w, (callFunc 23 args).run Try.prog w = .ok (.enter 23 args) w := enters_of Try.func23 (by kernel_rfl) rfl
      have SUB : Hid (∀ x ∈ z0, x ∈ uniq z0) := fun x hx => uniq_mem.2 hx
      go_wp2_with fail
      go_loopw [28] (fun i wr => ∃ k : Nat, k ≤ n ∧ i = .int .i64 (k : Int) ∧ wr = w2) (fun i _ => n - (intOf i).toNat)
      case atStart => exact ⟨0, by omega, rfl, rfl⟩
      case round =>
        obtain ⟨k, hk, rfl, rfl⟩ := hrel
        by_cases hk2 : k < n
        · rcases OP.out with ⟨h0, _⟩ | ⟨hp, b, off, rfl, hc⟩
          · omega
          have c1 := hc k hk2
          have IN : Hid (decide ((uniq z0).getD k [] ∈ z0) = true) := decide_eq_true (uniq_mem.1 (getD_mem (by rw [HL.out]; exact hk2)))
          by_cases hk0 : k = 0
          · subst hk0
            rw [Nat.add_zero] at c1
            generalize (uniq z0).getD 0 [] = x at c1 IN
            clear hc
            go_wp2_with fail
            refine (contains_of HZ.out x).mono ?_
            rw [IN.out]
            rintro e w' ⟨rfl, rfl⟩
            go_wp2
            go_roundw
            case rel => exact ⟨1, by omega, by go_num, trivial⟩
            case measure => simp [intOf]; omega
          · obtain ⟨m, hm⟩ : ∃ m, k = m + 1 := ⟨k - 1, by omega⟩
            have c0 := hc m (by omega)
            have LT : Hid (Op.bytesLess (bs ((uniq z0).getD m [])).toList (bs ((uniq z0).getD k [])).toList = true) := by
              show _ = _
              rw [bs_toList, bs_toList, bytesLess_eq]
              exact decide_eq_true (up_get (uniq_up z0) (by omega) (by rw [HL.out]; exact hk2))
            have z1 : (k : Int) - 1 = (m : Int) := by omega
            have z2 : (0 : Int) < (k : Int) := by omega
            have z3 : m < n := by omega
            clear hm hc
            generalize (uniq z0).getD k [] = x at c1 IN LT
            generalize bs ((uniq z0).getD m []) = y at c0 LT
            go_wp2_with fail
            refine (contains_of HZ.out x).mono ?_
            rw [IN.out]
            rintro e w' ⟨rfl, rfl⟩
            have lt := LT.out
            go_wp2
            go_roundw
            case rel => exact ⟨k + 1, by omega, by go_num, trivial⟩
            case measure => simp [intOf]; omega
        · obtain rfl : k = n := by omega
          go_wp2_with fail
          refine (equal_of HIN2.out HV2.out).mono ?_
          rw [decide_eq_true rfl]
          rintro e w' ⟨rfl, q, rfl⟩
          have BQ : Hid (Below wr.heap.size wr (wr.drewN q)) := below_drewN (Below.refl _ _) q
          have c4 : (wr.drewN q).cell? ⟨g, 0, none⟩ = some (.slice a k cap) := c3
          go_wp2_with fail
          refine (containsF_of (HZ.out.later BQ.out) g a k cap (uniq z0) c4 HS.out (HIN2.out.later BQ.out) SUB.out).mono ?_
          rintro e w' ⟨rfl, q2, rfl⟩
          go_wp2
          go_ret
          exact ⟨rfl, below_drewN HW.out (q + q2)⟩
    · rw [HGD.out] at hbad; cases hbad
  · clear hbad
    go_wp2
    go_ret
    exact ⟨rfl, HG.out.alloc HG.out.size _⟩

theorem own : ownKnob Try.prog.godebug = none := by kernel_rfl
theorem laidOut : laidOutB Try.prog = true := by kernel_rfl

set_option maxRecDepth 100000 in
theorem lifted (os : Os) (started : os.Started) (H : Type) (enc : TypeId × Value → H) :
    ReturnsInHanded {} Try.checked os 4 .any (Rows.nameSortSpec.pre6 enc Try.prog Try.f4 Rows.nameSortRow.domain false) (Rows.nameSortSpec.post enc Try.prog Try.f4 false true false false) := by
  refine returnsInHanded_of_change_sized (C := Try.checked) own started (by kernel_rfl) Try.func4
    (ChangeSpec.witness6 (enc := enc) (C := Try.checked) false ⟨#[], #[.slice none 0 0], []⟩ 8 (by kernel_rfl) (by kernel_rfl) (by kernel_rfl) (by kernel_rfl)) ?_
  intro W base args ds gs before hval0 hW hcnd hsz0 _
  have hval : ∀ (j : Nat) t v, Try.f4.params[j]? = some t → args[j]? = some v → Value.okWide Try.prog W .any base t v := hval0
  have hW' := hW
  obtain ⟨p, q, hA0, hV, rfl, hfz, hnd⟩ := hW
  have hA : DataW.TrodAll enc Try.prog W 0 (fun _ => true) true Try.f4.params.toList args.toList ds p := hA0
  have hsz : (DataW.weightsEach Try.prog (Try.f4.params.toList ++ Rows.nameSortSpec.plain.varTypes Try.prog) (ds ++ gs)).all (· ≤ reachBytes) = true := hsz0
  clear hsz0
  rw [Try.params4] at hA hval hsz
  obtain ⟨v0, vs0, d0, ds0, p0, q0, hargs, rfl, rfl, h0, r0⟩ := trodAll_cons hA
  obtain ⟨rfl, rfl, rfl⟩ := trodAll_nil r0
  obtain rfl : args = #[v0] := by cases args; simp_all
  obtain ⟨rfl, rfl⟩ := trodVars_none hV
  have k0 := h0
  have lt0 : ∀ x ∈ p0, x.block < W.heap.size := by obtain ⟨m, hm⟩ := k0; exact DataW.trod_lt m _ _ _ hm
  obtain ⟨z0, w0⟩ := open_strs (j := 0) Try.underlying22 Try.underlying9 (by kernel_rfl) (by kernel_rfl) hsz rfl rfl (hval 0 22 v0 rfl rfl) h0
  clear hA0 hval0
  refine (walk v0 z0 W w0).mono fun e W' ⟨he, bel⟩ => ?_
  subst he
  exact ⟨_, rfl, _, _, _, [], _, [], hW', trodAll_mk1 (shut_bool Try.underlying4 _), (trodAll_cons_mk (Below.trod laidOut (by kernel_rfl) (of_decide_eq_true (by kernel_rfl)) k0 bel lt0) trodAll_mk0), rfl, bel.frame _, fun h => by cases h⟩

theorem over : Rows.nameSortRow.holds Try.pinned (OpenSpec.ofChange Rows.nameSortSpec) :=
  OpenClaim.holds_of_wide 4 Try.f4 rfl rfl rfl rfl rfl rfl rfl ⟨rfl, rfl, rfl, rfl, rfl⟩ rfl rfl rfl rfl rfl (by kernel_rfl) Try.func4 (by kernel_rfl)
    (of_decide_eq_true (by kernel_rfl)) (by unfold Func.isWrapper; first | (rw [if_pos (by decide +kernel)]; kernel_rfl) | (rw [if_neg (by decide +kernel)]; exact ⟨rfl, rfl⟩))
    (fun os started H enc _ => lifted os started H enc)

theorem proved : Rows.NameSortSaid :=
  over
#print axioms proved
end Go.Proofs.Ytpfpcjgbjfpbbaa.nameSort
