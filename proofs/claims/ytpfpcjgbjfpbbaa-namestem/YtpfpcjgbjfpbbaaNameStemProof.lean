/-
  Proved: the two parts of Stem make up the name, and the second part is empty or a dot followed by bytes without dots and slashes (law NameStem answers true). No condition.
-/
import Derived.Test.YtpfpcjgbjfpbbaaNFind
import Derived.Test.YtpfpcjgbjfpbbaaNRune
import Derived.ShutString
import Derived.Laws.Concat
namespace Go.Proofs.Ytpfpcjgbjfpbbaa.nameStem
open Go.ChangeShapes Go.WideShapes Go.ChangeAt Go.RowKit
open Go.ChangeMaps (open_string shut_string)
set_option linter.unusedVariables false

theorem byteAt_extract (s : ByteArray) (a b j : Nat) (hb : b ≤ s.size) (hj : a + j < b) : byteAt (s.extract a b) j = byteAt s (a + j) := by
  unfold byteAt
  congr 1
  rw [List.getD, List.getD, Array.getElem?_toList, Array.getElem?_toList]
  have : (s.extract a b).data = s.data.extract a b := by simp
  rw [this, Array.getElem?_extract]
  have h : b ≤ s.data.size := hb
  rw [if_pos (by omega)]
theorem size_extract (s : ByteArray) (a b : Nat) (hb : b ≤ s.size) : (s.extract a b).size = b - a := by
  rw [ByteArray.size_extract]; omega
theorem split_extract (s : ByteArray) (i : Nat) (hi : i ≤ s.size) : s.extract 0 i ++ s.extract i s.size = s := by
  apply ByteArray.ext
  simp
theorem not_empty (s : ByteArray) (h : 0 < s.size) : s.toList.isEmpty = false := by
  rw [Lib.toList_data]
  cases e : s.data.toList with
  | nil =>
    have := size_list s
    rw [e, List.length_nil] at this
    omega
  | cons _ _ => rfl
theorem append_empty (s : ByteArray) : s ++ ByteArray.mk #[] = s := by
  apply ByteArray.ext
  simp

set_option maxHeartbeats 4000000 in
set_option maxRecDepth 100000 in
theorem walk (a0 : ByteArray) (w : World) (w0 : a0.data.toList.length ≤ reachBytes) :
    Calls Try.prog 7 #[.string a0] w fun e w' => e = .returned (.bool true) ∧ Below w.heap.size w w' := by
  rw [size_list] at w0
  have hs : a0.size < 4611686018427387904 := Nat.lt_of_le_of_lt w0 (by decide)
  clear w0
  have HS := Lib.hid hs
  go_enter Try.func7, Try.ntmps7
  go_wp2_with fail
  refine (names_true _).mono ?_
  rintro e wa ⟨rfl, hg⟩
  have HG := Lib.hid hg; clear hg
  go_wp2_with fail
  refine (stem_any a0 HS.out _).mono ?_
  rintro e wb ⟨⟨i, hc, rfl⟩ | ⟨hc, rfl⟩, q, rfl⟩
  · have HB := Lib.hid (below_drewN HG.out q)
    generalize wa.drewN q = wb at HB ⊢
    obtain ⟨h0, h1, h2, h3, h4⟩ := hc
    have hadd := fun w => run_string_add_sum (P := Try.prog) w (a0.extract 0 i) (a0.extract i a0.size) (by rw [size_extract _ _ _ (by omega), size_extract _ _ _ (by omega)]; omega)
    rw [split_extract a0 i (by omega)] at hadd
    have sA : (a0.extract 0 i).size = i := by rw [size_extract _ _ _ (by omega)]; omega
    have sB : (a0.extract i a0.size).size = a0.size - i := size_extract _ _ _ (by omega)
    have HNO : Hid (∀ j, j < ((a0.extract i a0.size).extract 1 (a0.extract i a0.size).size).size → byteAt ((a0.extract i a0.size).extract 1 (a0.extract i a0.size).size) j ≠ 46 ∧ byteAt ((a0.extract i a0.size).extract 1 (a0.extract i a0.size).size) j ≠ 47) := fun j hj => by
      rw [size_extract _ _ _ (Nat.le_refl _), sB] at hj
      rw [byteAt_extract _ _ _ _ (Nat.le_refl _) (by omega), byteAt_extract _ _ _ _ (Nat.le_refl _) (by omega)]
      exact h4 _ (by omega) (by omega)
    have bB : ∀ h : 0 < (a0.extract i a0.size).size, ((a0.extract i a0.size)[0]'h).toNat = 46 := fun h => by
      rw [byteAt_get, byteAt_extract _ _ _ _ (Nat.le_refl _) (by omega)]; exact h2
    obtain ⟨p, hp⟩ : ∃ p, i = p + 1 := ⟨i - 1, by omega⟩
    obtain ⟨y, hy, bA⟩ : ∃ y : Nat, y ≠ 47 ∧ ∀ h : p < (a0.extract 0 i).size, ((a0.extract 0 i)[p]'h).toNat = y := by
      refine ⟨byteAt a0 p, by rw [show p = i - 1 by omega]; exact h3, fun h => ?_⟩
      rw [byteAt_get, byteAt_extract _ _ _ _ (by omega) (by omega), Nat.zero_add]
    have eA := not_empty (a0.extract 0 i) (by omega)
    have eB := not_empty (a0.extract i a0.size) (by omega)
    have SD : Hid (((a0.extract i a0.size).extract 1 (a0.extract i a0.size).size).size < 4611686018427387904) := by show _ < _; rw [size_extract _ _ _ (Nat.le_refl _), sB]; omega
    generalize a0.extract 0 i = A at *
    generalize a0.extract i a0.size = B at *
    have pB : 0 < B.size := by omega
    have bB' := bB pB
    have pA : p < A.size := by omega
    have bA' := bA pA
    have z1 : (A.size : Int) - 1 = (p : Int) := by omega
    have ty : ((y : Int) != 47) = true := by rw [bne_iff_ne]; omega
    have hpb : p < 4611686018427387904 := by omega
    clear h0 h1 h2 h3 h4 sB bB bA hy hp sA
    go_wp2_with fail
    refine (containsAny_none _ SD.out HNO.out _).mono ?_
    rintro e wc ⟨rfl, hb⟩
    have HB2 := Lib.hid (HB.out.trans (hb.mono HB.out.size)); clear hb
    go_wp2
    go_ret
    exact ⟨rfl, HB2.out⟩
  · have hadd := fun w => run_string_add_sum (P := Try.prog) w a0 (ByteArray.mk #[]) (by show a0.size + 0 ≤ _; omega)
    rw [append_empty] at hadd
    clear hc
    go_wp2
    go_ret
    exact ⟨rfl, below_drewN HG.out q⟩

theorem own : ownKnob Try.prog.godebug = none := by kernel_rfl
theorem laidOut : laidOutB Try.prog = true := by kernel_rfl

set_option maxRecDepth 100000 in
theorem lifted (os : Os) (started : os.Started) (H : Type) (enc : TypeId × Value → H) :
    ReturnsInHanded {} Try.checked os 7 .any (Rows.nameStemSpec.pre6 enc Try.prog Try.f7 Rows.nameStemRow.domain false) (Rows.nameStemSpec.post enc Try.prog Try.f7 false true false false) := by
  refine returnsInHanded_of_change_sized (C := Try.checked) own started (by kernel_rfl) Try.func7
    (ChangeSpec.witness6 (enc := enc) (C := Try.checked) false ⟨#[], #[.string ByteArray.empty], []⟩ 8 (by kernel_rfl) (by kernel_rfl) (by kernel_rfl) (by kernel_rfl)) ?_
  intro W base args ds gs before hval0 hW hcnd hsz0 _
  have hval : ∀ (j : Nat) t v, Try.f7.params[j]? = some t → args[j]? = some v → Value.okWide Try.prog W .any base t v := hval0
  have hW' := hW
  obtain ⟨p, q, hA0, hV, rfl, hfz, hnd⟩ := hW
  have hA : DataW.TrodAll enc Try.prog W 0 (fun _ => true) true Try.f7.params.toList args.toList ds p := hA0
  have hsz : (DataW.weightsEach Try.prog (Try.f7.params.toList ++ Rows.nameStemSpec.plain.varTypes Try.prog) (ds ++ gs)).all (· ≤ reachBytes) = true := hsz0
  clear hsz0
  rw [Try.params7] at hA hval hsz
  obtain ⟨v0, vs0, d0, ds0, p0, q0, hargs, rfl, rfl, h0, r0⟩ := trodAll_cons hA
  obtain ⟨rfl, rfl, rfl⟩ := trodAll_nil r0
  obtain rfl : args = #[v0] := by cases args; simp_all
  obtain ⟨rfl, rfl⟩ := trodVars_none hV
  obtain ⟨a0, rfl, rfl, rfl, w0'⟩ := open_string Try.underlying9 (hval 0 9 v0 rfl rfl) h0
  have w0 := sized_string (j := 0) hsz rfl rfl
  clear hA0 hval0
  refine (walk a0 W w0).mono fun e W' ⟨he, bel⟩ => ?_
  subst he
  exact ⟨_, rfl, _, _, _, [], _, [], hW', trodAll_mk1 (shut_bool Try.underlying4 _), (trodAll_cons_mk (shut_string Try.underlying9 w0') trodAll_mk0), rfl, bel.frame _, fun h => by cases h⟩

theorem over : Rows.nameStemRow.holds Try.pinned (OpenSpec.ofChange Rows.nameStemSpec) :=
  OpenClaim.holds_of_wide 7 Try.f7 rfl rfl rfl rfl rfl rfl rfl ⟨rfl, rfl, rfl, rfl, rfl⟩ rfl rfl rfl rfl rfl (by kernel_rfl) Try.func7 (by kernel_rfl)
    (of_decide_eq_true (by kernel_rfl)) (by unfold Func.isWrapper; first | (rw [if_pos (by decide +kernel)]; kernel_rfl) | (rw [if_neg (by decide +kernel)]; exact ⟨rfl, rfl⟩))
    (fun os started H enc _ => lifted os started H enc)

theorem proved : Rows.NameStemSaid :=
  over
#print axioms proved
end Go.Proofs.Ytpfpcjgbjfpbbaa.nameStem
