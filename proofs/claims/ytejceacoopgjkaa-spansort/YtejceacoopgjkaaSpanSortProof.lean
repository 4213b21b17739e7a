/-
  Proved: Sort answers the same numbers, in order, and ends with Most (law SpanSort answers true). No condition.
-/
import Derived.Test.YtejceacoopgjkaaUEq
import Derived.Deep.RegionHeld3
namespace Go.Proofs.Ytejceacoopgjkaa.spanSort
open Go.ChangeShapes Go.WideShapes Go.ChangeAt Go.RowKit
set_option linter.unusedVariables false

theorem last_top {f : Nat → Nat} {len m : Nat} {O : List Nat} (hb : ∀ i, i < len → f i < 18446744073709551616) (hp : O.Perm (lst f len)) (ha : Asc O) (ht : Top f len m) (h : O.length - 1 < O.length) : O[O.length - 1] = m := by
  obtain ⟨⟨i, hi, rfl⟩, hm⟩ := ht
  have h1 : f i ∈ O := hp.symm.subset (by unfold lst; exact List.mem_map.2 ⟨i, List.mem_range.2 hi, rfl⟩)
  have h2 : O[O.length - 1] ∈ lst f len := hp.subset (List.getElem_mem h)
  obtain ⟨j, hj, e⟩ := List.mem_map.1 h2
  have hj := List.mem_range.1 hj
  obtain ⟨k, hk, e2⟩ := List.getElem_of_mem h1
  have l1 : rank O[O.length - 1] ≤ rank (f i) := by rw [← e]; exact hm j hj
  have l2 : rank (f i) ≤ rank O[O.length - 1] := by
    rw [← e2]
    by_cases hkl : k = O.length - 1
    · subst hkl; exact Nat.le_refl _
    · exact (List.pairwise_iff_getElem.1 ha) k (O.length - 1) hk h (by omega)
  refine rank_inj ?_ (hb i hi) (by omega)
  rw [← e]; exact hb j hj
theorem most_fls {a : Option Addr} {len cap : Nat} {f : Nat → Nat} {w0 w : World} (h : Fls w0 a len cap f) (hb : Below w0.heap.size w0 w) (hpos : 0 < len) :
    Calls Try.prog 21 #[.slice a len cap] w fun e w' => (∃ m, Top f len m ∧ e = .returned (.float .f64 m)) ∧ w = w' := by
  obtain ⟨h1, h2, h3, h4⟩ := h
  rcases h4 with rfl | ⟨b, off, rfl, hlt, hc⟩
  · omega
  · exact most_any len cap b off f w hpos (by omega) h3 (fun k hk => cell_later hb (hc k hk))
theorem fin_of {a : Option Addr} {len cap : Nat} {f : Nat → Nat} {w0 w : World} (h : Fls w0 a len cap f) (hb : Below w0.heap.size w0 w) : FIn w a len f := by
  obtain ⟨h1, h2, h3, h4⟩ := h
  refine ⟨by omega, h3, ?_⟩
  rcases h4 with h4 | ⟨b, off, h4, hlt, hc⟩
  · exact .inl h4
  · exact .inr ⟨b, off, h4, Nat.lt_of_lt_of_le hlt hb.size, fun i hi => cell_later hb (hc i hi)⟩

/-- the sorted row, opened: its numbers by index, in every later world -/
theorem row_open {w : World} {base len : Nat} {v : Value} {O : List Nat} {f : Nat → Nat} (hown : w.ownsRow base 22 1 v O.length (O.map fun x => Value.float .f64 x)) (hlen : O.length = len) :
    (len = 0 ∧ ∃ a c, v = .slice a 0 c) ∨ 0 < len ∧ ∃ g cap, v = .slice (some ⟨g, 0, none⟩) len cap ∧ g < w.heap.size ∧ ∀ i, i < len → w.cell? ⟨g, i, none⟩ = some (.float .f64 (O.getD i 0)) := by
  subst hlen
  by_cases h0 : O.length = 0
  · left
    refine ⟨h0, ?_⟩
    rcases hown.2 with ⟨hv, _⟩ | ⟨g, cap, _, hv, _⟩
    · exact ⟨_, _, hv⟩
    · exact ⟨_, _, by rw [hv, h0]⟩
  · right
    refine ⟨by omega, ?_⟩
    rcases hown.2 with ⟨_, hv⟩ | ⟨g, cap, cur, hv, hb, hh, _⟩
    · exact absurd hv h0
    · subst hv
      refine ⟨g, cap, rfl, ?_, fun i hi => ?_⟩
      · rcases Nat.lt_or_ge g w.heap.size with h | h
        · exact h
        · rw [Array.getElem?_eq_none h] at hh; cases hh
      · rw [hown.cellAt i (by omega)]; simp [hi]
theorem lst_getD (O : List Nat) : lst (fun i => O.getD i 0) O.length = O := by
  refine List.ext_getElem (by rw [lst_length]) fun i h1 h2 => ?_
  rw [lst_get]; simp [List.getD, List.getElem?_eq_getElem h2]

theorem key_none (a : Option Addr) (c : Nat) (w : World) : Calls Try.prog 39 #[.slice a 0 c] w fun e w' => e = .returned (.slice none 0 0) ∧ w' = w := by
  go_enter Try.func39, Try.ntmps39
  go_wp2_with fail
  go_loopw [3, 8] (fun v i wr => v = .slice none 0 0 ∧ i = .int .i64 0 ∧ wr = w) (fun _ _ _ => 0)
  case atStart => exact ⟨rfl, rfl, rfl⟩
  case round =>
    obtain ⟨rfl, rfl, rfl⟩ := hrel
    go_wp2_with fail
    refine (sort_none none 0 _).mono ?_
    rintro e w' ⟨rfl, rfl⟩
    go_wp2
    go_ret
    exact ⟨rfl, rfl⟩

set_option maxRecDepth 100000 in
set_option maxHeartbeats 2000000 in
theorem walk (a0 : Option Addr) (len0 cap0 : Nat) (f0 : Nat → Nat) (w : World) (w0 : Fls w a0 len0 cap0 f0) :
    Calls Try.prog 8 #[.slice a0 len0 cap0] w fun e w' => e = .returned (.bool true) ∧ Below w.heap.size w w' := by
  have F := Lib.hid w0; clear w0
  have eg : ∀ args w, (callFunc 39 args).run Try.prog w = .ok (.enter 39 args) w := enters_of Try.func39 (by kernel_rfl) rfl
  go_enter Try.func8, Try.ntmps8
  go_wp2_with fail
  refine (spans_true w).mono ?_
  rintro e wa ⟨rfl, hb⟩
  have HB := Lib.hid hb; clear hb
  go_wp2_with fail
  refine (sort_any wa F.out HB.out).mono ?_
  rintro e wb ⟨v, O, rfl, hp, ha, hown, hbel⟩
  have HP := Lib.hid hp
  have HA := Lib.hid ha
  have HB2 := Lib.hid (HB.out.trans (hbel.mono HB.out.size))
  have hlen : O.length = len0 := by rw [hp.length_eq, lst_length]
  have HLen := Lib.hid hlen
  have HBd := Lib.hid (lst_bound F.out.2.2.1)
  have hl2 : len0 ≤ 17592186043904 := by have := F.out.1; have := F.out.2.1; omega
  rcases row_open (f := f0) hown hlen with ⟨h0, a, c, rfl⟩ | ⟨hpos, g, cap, rfl, hg, hc⟩
  · clear hp ha hbel hlen hown HB
    subst h0
    go_wp2_with fail
    refine (isSorted_none _ _ _ _).mono ?_
    rintro e w' ⟨rfl, rfl⟩
    go_wp2_with fail
    go_quiet (first
      | (go_at_call 39; exact Calls.quiet_of_same (key_none _ _ _))
      | (go_at_call 41; exact Calls.quiet_of_same ((equalU_none _ _ _ _ _).mono fun _ _ k => ⟨k.1, k.2.symm⟩)))
    go_wp2
    go_ret
    exact ⟨rfl, below_drewN HB2.out _⟩
  · clear hp ha hbel hlen hown HB
    have HC := Lib.hid hc
    clear hc
    have bO : Hid (∀ i, i < len0 → O.getD i 0 < 18446744073709551616) := fun i hi => by
      have hi' : i < O.length := by rw [HLen.out]; exact hi
      rw [List.getD, List.getElem?_eq_getElem hi']
      exact HBd.out _ (HP.out.subset (List.getElem_mem hi'))
    have aO : Hid (∀ k, k + 1 < len0 → rank (O.getD k 0) ≤ rank (O.getD (k + 1) 0)) := fun k hk => by
      have h1 : k < O.length := by rw [HLen.out]; omega
      have h2 : k + 1 < O.length := by rw [HLen.out]; omega
      rw [List.getD, List.getD, List.getElem?_eq_getElem h1, List.getElem?_eq_getElem h2]
      exact (List.pairwise_iff_getElem.1 HA.out) k (k + 1) h1 h2 (by omega)
    go_wp2_with fail
    refine (isSorted_row len0 cap g (fun i => O.getD i 0) wb hpos (by omega) bO.out HC.out aO.out).mono ?_
    rintro e w' ⟨rfl, m, rfl⟩
    have FX : Hid (∀ w', Below wb.heap.size wb w' → FIn w' a0 len0 f0) := fun w' h => fin_of F.out (HB2.out.trans (h.mono HB2.out.size))
    have FY : Hid (∀ w', Below wb.heap.size wb w' → FIn w' (some ⟨g, 0, none⟩) len0 (fun i => O.getD i 0)) := fun w' h =>
      ⟨hl2, bO.out, .inr ⟨g, 0, rfl, Nat.lt_of_lt_of_le hg h.size, fun i hi => by rw [Nat.zero_add, h.cell hg]; exact HC.out i hi⟩⟩
    have BM : Hid (Below wb.heap.size wb (wb.drewN m)) := below_drewN (Below.refl _ _) m
    obtain ⟨L1, hL1⟩ : ∃ L1, len0 = L1 + 1 := ⟨len0 - 1, by omega⟩
    have eL : (len0 : Int) - 1 = (L1 : Int) := by omega
    have lL : L1 < len0 := by omega
    have zL : (L1 : Int) < (len0 : Int) := by omega
    have zL0 : (0 : Int) ≤ (L1 : Int) := by omega
    have wL : IntKind.i64.wrap ((len0 : Int) - 1) = (L1 : Int) := by rw [eL, IntKind.wrap_i64]; omega
    have wL2 : IntKind.i64.wrap (L1 : Int) = (L1 : Int) := by rw [IntKind.wrap_i64]; omega
    have wL3 : ((L1 : Int)).toNat = L1 := by omega
    have ne0 : ((len0 : Int) == 0) = false := by rw [beq_eq_false_iff_ne]; omega
    have CL : Hid (∀ w', Below wb.heap.size wb w' → w'.cell? ⟨g, L1, none⟩ = some (.float .f64 (O.getD L1 0))) := fun w' h => by rw [h.cell hg]; exact HC.out L1 lL
    have TOP : Hid (∀ mm, Top f0 len0 mm → mm = O.getD L1 0) := fun mm hm => by
      have e : O.length - 1 = L1 := by rw [HLen.out]; omega
      have h' : O.length - 1 < O.length := by rw [HLen.out]; omega
      have := last_top F.out.2.2.1 HP.out HA.out hm h'
      rw [← this, ← e, List.getD, List.getElem?_eq_getElem h']; rfl
    have bl := Lib.hid (bO.out L1 lL)
    have PZ : Hid (∀ z z' : List Bv, z.Perm (toBv (lst (fun i => O.getD i 0) len0)) → AscU z → z'.Perm (toBv (lst f0 len0)) → AscU z' → z' = z) := fun z z' h1 h2 h3 h4 => by
      refine ascU_unique h4 h2 (h3.trans (List.Perm.trans ?_ h1.symm))
      have e := lst_getD O
      rw [HLen.out] at e
      rw [e]
      exact (HP.out.symm.map _)
    clear hL1 HA HC aO HBd HLen HP
    generalize O.getD L1 0 = last at CL TOP bl
    generalize wb.drewN m = wq at BM ⊢
    go_wp2_with fail
    have clq := CL.out wq BM.out
    go_region_held3 (fun w' => w'.cell? ⟨g, L1, none⟩ = some (.float .f64 last)) (first | assumption | exact clq | (simp only [World.cell?_drewN]; assumption) | go_keep) (first
      | (go_at_call_of 39 (Value.slice (some (Addr.mk g 0 none)) len0 cap)
         refine (key_any _ _ _ _ _ (FY.out _ ?_)).mono ?_
         · exact BM.out.drew
         rintro e w2 ⟨v2, z2, rfl, p2, s2, o2, b2⟩
         have B2 : Hid (Below wb.heap.size wb w2) := BM.out.drew.trans (b2.mono BM.out.size)
         have P2 := Lib.hid p2
         have S2 := Lib.hid s2
         have O2 := Lib.hid o2
         have cl2 := CL.out _ B2.out
         clear p2 s2 o2 b2)
      | (go_at_call_of 39 (Value.slice a0 len0 cap0)
         refine (key_any _ _ _ _ _ (FX.out _ ?_)).mono ?_
         · exact B2.out
         rintro e w3 ⟨v3, z3, rfl, p3, s3, o3, b3⟩
         have B3 : Hid (Below wb.heap.size wb w3) := B2.out.trans (b3.mono B2.out.size)
         have EZ := PZ.out _ _ P2.out S2.out p3 s3
         subst EZ
         rw [lst_length] at o3
         have O3 := Lib.hid o3
         have O2b := Lib.hid (own_later O2.out b3)
         have cl3 := CL.out _ B3.out
         clear p3 s3 o3 b3 P2 S2 O2)
      | (go_at_call 41
         have o2 := O2b.out
         rw [lst_length] at o2
         refine (equalU_own (by omega) o2 O3.out).mono ?_
         rintro e w4 ⟨rfl, m4, rfl⟩
         have B4 : Hid _ := below_drewN B3.out m4
         have cl4 := CL.out _ B4.out)
      | (go_at_call 21
         refine (most_fls F.out (HB2.out.trans (B4.out.mono HB2.out.size)) hpos).mono ?_
         rintro e w5 ⟨⟨mm, hm, rfl⟩, rfl⟩
         have et := TOP.out mm hm
         subst et)
      | (go_at_call 14
         refine (order_any _ _ bl.out bl.out _).mono ?_
         rintro e w6 ⟨rfl, rfl⟩
         rw [ord_self]))
    go_wp2
    go_ret
    exact ⟨rfl, HB2.out.trans (B4.out.mono HB2.out.size)⟩

theorem own : ownKnob Try.prog.godebug = none := by kernel_rfl
theorem laidOut : laidOutB Try.prog = true := by kernel_rfl

set_option maxRecDepth 100000 in
theorem lifted (os : Os) (started : os.Started) (H : Type) (enc : TypeId × Value → H) :
    ReturnsInHanded {} Try.checked os 8 .any (Rows.spanSortSpec.pre6 enc Try.prog Try.f8 Rows.spanSortRow.domain false) (Rows.spanSortSpec.post enc Try.prog Try.f8 false true false false) := by
  refine returnsInHanded_of_change_sized (C := Try.checked) own started (by kernel_rfl) Try.func8
    (ChangeSpec.witness6 (enc := enc) (C := Try.checked) false ⟨#[], #[.slice none 0 0], []⟩ 8 (by kernel_rfl) (by kernel_rfl) (by kernel_rfl) (by kernel_rfl)) ?_
  intro W base args ds gs before hval0 hW hcnd hsz0 _
  have hval : ∀ (j : Nat) t v, Try.f8.params[j]? = some t → args[j]? = some v → Value.okWide Try.prog W .any base t v := hval0
  have hW' := hW
  obtain ⟨p, q, hA0, hV, rfl, hfz, hnd⟩ := hW
  have hA : DataW.TrodAll enc Try.prog W 0 (fun _ => true) true Try.f8.params.toList args.toList ds p := hA0
  have hsz : (DataW.weightsEach Try.prog (Try.f8.params.toList ++ Rows.spanSortSpec.plain.varTypes Try.prog) (ds ++ gs)).all (· ≤ reachBytes) = true := hsz0
  clear hsz0
  rw [Try.params8] at hA hval hsz
  obtain ⟨v0, vs0, d0, ds0, p0, q0, hargs, rfl, rfl, h0, r0⟩ := trodAll_cons hA
  obtain ⟨rfl, rfl, rfl⟩ := trodAll_nil r0
  obtain rfl : args = #[v0] := by cases args; simp_all
  obtain ⟨rfl, rfl⟩ := trodVars_none hV
  have k0 := h0
  have lt0 : ∀ x ∈ p0, x.block < W.heap.size := by obtain ⟨m, hm⟩ := k0; exact DataW.trod_lt m _ _ _ hm
  obtain ⟨a0, len0, cap0, f0, rfl, w0⟩ := open_floats (j := 0) Try.underlying23 Try.underlying22 (by kernel_rfl) (by kernel_rfl) hsz rfl rfl (hval 0 23 v0 rfl rfl) h0
  clear hA0 hval0
  refine (walk a0 len0 cap0 f0 W w0).mono fun e W' ⟨he, bel⟩ => ?_
  subst he
  exact ⟨_, rfl, _, _, _, [], _, [], hW', trodAll_mk1 (shut_bool Try.underlying4 _), (trodAll_cons_mk (Below.trod laidOut (by kernel_rfl) (of_decide_eq_true (by kernel_rfl)) k0 bel lt0) trodAll_mk0), rfl, bel.frame _, fun h => by cases h⟩

theorem over : Rows.spanSortRow.holds Try.pinned (OpenSpec.ofChange Rows.spanSortSpec) :=
  OpenClaim.holds_of_wide 8 Try.f8 rfl rfl rfl rfl rfl rfl rfl ⟨rfl, rfl, rfl, rfl, rfl⟩ rfl rfl rfl rfl rfl (by kernel_rfl) Try.func8 (by kernel_rfl)
    (of_decide_eq_true (by kernel_rfl)) (by unfold Func.isWrapper; first | (rw [if_pos (by decide +kernel)]; kernel_rfl) | (rw [if_neg (by decide +kernel)]; exact ⟨rfl, rfl⟩))
    (fun os started H enc _ => lifted os started H enc)

theorem proved : Rows.SpanSortSaid :=
  over
#print axioms proved
end Go.Proofs.Ytejceacoopgjkaa.spanSort
