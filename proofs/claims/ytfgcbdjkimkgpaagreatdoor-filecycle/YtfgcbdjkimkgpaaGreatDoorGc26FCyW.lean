/-
  The law FileCycle, walked. No condition.
  Proved: millwrightkeep.FileCycle answers true, whatever name and number are handed in, and leaves them as they were. No condition but that the card ties two tables of unicode/utf8 to the pruned copy of the project.
-/
import Derived.Test.YtfgcbdjkimkgpaaGreatDoorGc25LCard
import Derived.Test.YtfgcbdjkimkgpaaGreatDoorGc22FAd
import Derived.Laws.Runes
namespace Go.Proofs.YtfgcbdjkimkgpaaGreatDoor
set_option maxRecDepth 100000
set_option linter.unusedVariables false
open Go.ChangeShapes Go.WideShapes Go.ChangeAt Go.RowKit

/-- a row of texts of the call's own -/
def TO (B : Nat) (v : Value) (l : List Mc) (w : World) : Prop := w.ownsRow B 25 2 v l.length (mcCells l)
theorem snocT {B : Nat} {v : Value} {o : List Mc} {x y : Str} {w : World} (h : w.ownsRow B 25 2 v (o.length + 1) (mcCells o ++ [.string (bs x), .string (bs y)])) : TO B v (o ++ [(x, y)]) w := by
  unfold TO; rw [List.length_append, mcCells_snoc]; exact h
theorem McIn.ownT {w : World} {base : Nat} {v : Value} {z : List Mc} (h : TO base v z w) (hn : z.length ≤ 8796093022208) : McIn w v z := by
  rcases h.2 with ⟨hv, h0⟩ | ⟨g, cap, cur, hv, hb, hg, hc, hm, hs, ht⟩
  · have : z = [] := List.length_eq_zero_iff.1 h0
    subst this
    exact ⟨none, 0, hv, Nat.le_refl _, Nat.zero_le _, Nat.zero_le _, .inl rfl⟩
  · refine ⟨_, cap, hv, hc, hm, hn, .inr ⟨g, 0, rfl, ?_, fun k x hk => ?_⟩⟩
    · rcases Nat.lt_or_ge g w.heap.size with h' | h'
      · exact h'
      · simp [Array.getElem?_eq_none h'] at hg
    · have hc := World.ownsRow.cells h (g := g) (by rw [hv]; rfl)
      obtain ⟨h1, h2⟩ := mcCells_at z k x hk
      have e1 := hc _ _ h1
      have e2 := hc _ _ h2
      rw [add_off] at e1 e2
      rw [Nat.zero_add]
      exact ⟨e1, e2⟩
theorem infoTx : (Tryz.prog.info? 25).map (fun i => (i.zero, i.size, i.bytes)) = some (some (.agg #[.string ByteArray.empty, .string ByteArray.empty]), 2, 32) := by kernel_rfl
theorem enc_dig {j : Nat} (h : j < 9) : Utf8.encode ((48 : Int) + (j : Int)) = bs [dig j] := by
  have key : ∀ j : Fin 9, Utf8.encode ((48 : Int) + ((j.val : Nat) : Int)) = bs [dig j.val] := by decide +kernel
  exact key ⟨j, h⟩
theorem cy_step {n : Str} {K j : Nat} (h : j < K + 1) : (cyT n K).take (j + 1) = (cyT n K).take j ++ [(cyN n j, incL (cyN n ((j + 1) % (K + 1))) ++ [10])] := by
  have e : (cyT n K)[j]? = some (cyN n j, incL (cyN n ((j + 1) % (K + 1))) ++ [10]) := by
    unfold cyT
    rw [List.getElem?_map, List.getElem?_range h]; rfl
  rw [List.take_add_one, e]; rfl
theorem cy_len (n : Str) (K : Nat) : (cyT n K).length = K + 1 := by unfold cyT; simp
set_option maxHeartbeats 16000000 in
theorem cycle_walk (n : Str) (k : Int) (w : World) (hn : n.length ≤ 9223372036854775807) (hm : MX w) :
    Calls Tryz.prog 8 #[.string (bs n), .int .i64 k] w fun e w' => e = .returned (.bool true) ∧ Below w.heap.size w w' := by
  have FT := Lib.hid (files_true w hm)
  have HM := Lib.hid hm
  have NS : Hid ((bs n).size ≤ 9223372036854775807) := by show _ ≤ _; rw [bs_size]; exact hn
  have sn := bs_size n
  clear hm hn
  go_enter Tryz.func8, Tryz.ntmps8
  go_wp2_with fail
  refine FT.out.mono ?_
  rintro e w1 ⟨rfl, hb1⟩
  have B1 := Lib.hid hb1
  clear hb1 FT
  go_wp2_with fail
  refine (check_any (bs n) _ NS.out).mono ?_
  rintro e w2 ⟨rfl, rfl⟩
  rw [bs_list]
  cases hg : good n
  · clear hg
    go_wp2
    go_ret
    exact ⟨rfl, B1.out⟩
  · have HG := Lib.hid hg
    clear hg
    by_cases h1 : k < 0
    · go_wp2
      go_ret
      exact ⟨rfl, B1.out⟩
    by_cases h2 : 8 < k
    · go_wp2
      go_ret
      exact ⟨rfl, B1.out⟩
    by_cases h3 : 38 < n.length
    · go_wp2
      go_ret
      exact ⟨rfl, B1.out⟩
    obtain ⟨K, hk⟩ : ∃ K : Nat, (K : Int) = k := ⟨k.toNat, by omega⟩
    have hK : K ≤ 8 := by omega
    have CL := Lib.hid (cy_lines HG.out (by omega) hK)
    obtain ⟨i0, hi, hz0, hz1, hz2⟩ := info_parts infoTx
    have IH := Lib.hid hi
    have HK := Lib.hid hK; have H3 := Lib.hid h3; have KK := Lib.hid hk
    have t1 : decide (k < 0) = false := decide_eq_false (by omega)
    have t2 : decide (8 < k) = false := decide_eq_false (by omega)
    have t3 : decide (38 < (n.length : Int)) = false := decide_eq_false (by omega)
    have t4 : (errOf true != 0) = false := rfl
    clear hi h1 h2 h3 hK hk
    go_upto_region 5 with (fail)
    clear t1 t2 t3 t4
    have h38 : n.length ≤ 38 := by have := H3.out; omega
    have k0 : 0 ≤ k := by have := KK.out; omega
    have k8 : k ≤ 8 := by have h1 := KK.out; have h2 := HK.out; omega
    go_wp2_with fail
    go_loopw [5, 30] (fun t i wr => ∃ j : Nat, j ≤ K + 1 ∧ i = .int .i64 (j : Int) ∧ TO w2.heap.size t ((cyT n K).take j) wr ∧ Below w2.heap.size w2 wr) (fun _ i _ => K + 1 - (intOf i).toNat)
    case atStart => exact ⟨0, Nat.zero_le _, rfl, World.ownsRow_nil _ _ _ _, Below.refl _ _⟩
    case round =>
      obtain ⟨j, hj, rfl, q1, q2⟩ := hrel
      have Q1 := Lib.hid q1; have Q2 := Lib.hid q2; clear q1 q2
      by_cases hj2 : j < K + 1
      · have S1 := Lib.hid (cy_step (n := n) hj2)
        obtain ⟨i, hi⟩ : ∃ i : Int, i = (j : Int) := ⟨_, rfl⟩
        have m1 : (i + 1).tmod (k + 1) = (((j + 1) % (K + 1) : Nat) : Int) := by
          have hk := KK.out
          rw [hi, ← hk, show (j : Int) + 1 = ((j + 1 : Nat) : Int) by simp, show (K : Int) + 1 = ((K + 1 : Nat) : Int) by simp]
          exact (Int.ofNat_tmod (j + 1) (K + 1)).symm
        obtain ⟨d, hd⟩ : ∃ d, d = (j + 1) % (K + 1) := ⟨_, rfl⟩
        have d9 : d < 9 := by rw [hd]; have := Nat.mod_lt (j + 1) (show 0 < K + 1 by omega); have := HK.out; omega
        rw [← hd] at m1 S1
        clear hd
        have e1 := enc_dig (j := j) (by have := HK.out; omega)
        have e2 := enc_dig d9
        rw [← hi] at e1 ⊢
        obtain ⟨dI, hdI⟩ : ∃ dI : Int, dI = (d : Int) := ⟨_, rfl⟩
        rw [← hdI] at m1 e2
        have v1 : 0 ≤ dI := by omega
        have v2 : dI ≤ 8 := by omega
        have u1 : 0 ≤ i := by omega
        have u2 : i ≤ 8 := by have := HK.out; omega
        have u3 : i < k + 1 := by have := KK.out; omega
        have z1 : ¬ k + 1 = 0 := by omega
        have s1 := bs_size [dig j]
        have s2 := bs_size [dig d]
        have HI := Lib.hid hi; have HJ := Lib.hid hj; have HJ2 := Lib.hid hj2
        have c1 := bs_append n [dig d]
        have c2 := bs_append n [dig j]
        have c3 : ByteArray.mk #[105, 110, 99, 108, 117, 100, 101, 32] ++ bs (n ++ [dig d]) = bs (incL (cyN n d)) := by
          rw [show ByteArray.mk #[105, 110, 99, 108, 117, 100, 101, 32] = bs [105, 110, 99, 108, 117, 100, 101, 32] from rfl, bs_append]; rfl
        have c4 : bs (incL (cyN n d)) ++ ByteArray.mk #[10] = bs (incL (cyN n d) ++ [10]) := by
          rw [show ByteArray.mk #[10] = bs [10] from rfl, bs_append]
        have s3 : (bs (n ++ [dig d])).size = n.length + 1 := by rw [bs_size]; simp
        have s4 : (bs (incL (cyN n d))).size = n.length + 9 := by rw [bs_size]; simp [incL, incW, cyN]
        have s5 : (ByteArray.mk #[105, 110, 99, 108, 117, 100, 101, 32]).size = 8 := rfl
        have s6 : (ByteArray.mk #[10]).size = 1 := rfl
        generalize hD1 : bs [dig j] = D1 at *
        generalize hD2 : bs [dig d] = D2 at *
        generalize hX1 : bs (n ++ [dig d]) = X1 at *
        generalize hX2 : bs (n ++ [dig j]) = X2 at *
        generalize hX3 : bs (incL (cyN n d)) = X3 at *
        generalize hX4 : bs (incL (cyN n d) ++ [10]) = X4 at *
        have HX2 : Hid (bs (cyN n j) = X2) := hX2
        have HX4 := Lib.hid hX4
        have TL : Hid (((cyT n K).take j).length ≤ 9) := by
          show _ ≤ _
          have := List.length_take_le j (cyT n K)
          omega
        have OA : Hid (∀ o, (wr.alloc o).ownsRow w2.heap.size 25 2 u5 ((cyT n K).take j).length (mcCells ((cyT n K).take j))) := fun o => World.ownsRow.alloc Q1.out o
        have SA : Hid (∀ o, w2.heap.size ≤ (wr.alloc o).heap.size) := fun o => by have := Q2.out.size; simp; omega
        have BB : Hid (∀ o, Below w2.heap.size w2 (wr.alloc o)) := fun o => Q2.out.alloc Q2.out.size o
        have LV : Hid (∀ j, u5.ownBlock = some j → w2.heap.size ≤ j) := fun j hj => (World.ownsRow.lt Q1.out j hj).1
        clear hD1 hD2 hX1 hX2 hX3 hX4 hi hj hj2 hdI d9
        generalize hl : (cyT n K).take j = l at *
        have HL := Lib.hid hl
        clear hl
        go_upto_region 9 with (fail)
        go_upto_region 10 with (fail)
        have tl := TL.out
        go_wp2_with (at_builtin; go_must (refine wpList_append_own _ rfl (.tmp 43) (.tmp 54) 22 rfl w2.heap.size 25 i0 (.agg #[.string ByteArray.empty, .string ByteArray.empty]) 2 32 Tryz.underlying22 IH.out hz0 hz1 hz2 rfl (by decide) _ _ _ rfl (OA.out _) ⟨wr.heap.size, 0, none⟩ 1 1 [.string X2, .string X4] rfl rfl (two_new _ _ _ _) (by intro u hu; simp at hu; rcases hu with rfl | rfl <;> rfl) (by unfold maxLen; omega) (by omega) (SA.out _) ?_; intro v5 w5 q1 q2 q3; have O5 := Lib.hid q1; have G5 := Lib.hid q2; clear q1 q2 q3))
        go_roundw
        case rel =>
          refine ⟨j + 1, by have := HJ2.out; omega, by have := HI.out; go_num, ?_, (BB.out _).grown G5.out (SA.out _) LV.out⟩
          have o := O5.out
          rw [← HX2.out, ← HX4.out] at o
          rw [S1.out]
          exact snocT o
        case measure =>
          have := HI.out; have := HJ2.out
          simp [intOf]; omega
      · obtain rfl : j = K + 1 := by omega
        have HT : Hid (TO w2.heap.size u5 (cyT n K) wr) := by
          have q := Q1.out
          rw [← cy_len n K, List.take_length] at q
          exact q
        have MT := Lib.hid (McIn.ownT HT.out (by rw [cy_len]; have := HK.out; omega))
        have TX : Hid (∀ m ∈ cyT n K, m.1.length ≤ maxLen ∧ m.2.length ≤ 9223372036854775807) := fun m hm => by
          obtain ⟨i, hi, rfl⟩ := List.mem_map.1 hm
          refine ⟨?_, ?_⟩
          · unfold maxLen; show (n ++ [dig i]).length ≤ _; simp; omega
          · simp [incL, incW, cyN]; omega
        have BW : Hid (Below w.heap.size w wr) := B1.out.trans (Q2.out.mono B1.out.size)
        have c3 : ByteArray.mk #[105, 110, 99, 108, 117, 100, 101, 32] ++ bs n = bs ([105, 110, 99, 108, 117, 100, 101, 32] ++ n) := by
          rw [show ByteArray.mk #[105, 110, 99, 108, 117, 100, 101, 32] = bs [105, 110, 99, 108, 117, 100, 101, 32] from rfl, bs_append]
        have c4 : bs ([105, 110, 99, 108, 117, 100, 101, 32] ++ n) ++ ByteArray.mk #[48] = bs (incL (cyN n 0)) := by
          rw [show ByteArray.mk #[48] = bs [48] from rfl, bs_append]; simp [incL, incW, cyN, dig]
        have s4 : (bs ([105, 110, 99, 108, 117, 100, 101, 32] ++ n)).size = n.length + 8 := by rw [bs_size]; simp
        have s5 : (ByteArray.mk #[105, 110, 99, 108, 117, 100, 101, 32]).size = 8 := rfl
        have s6 : (ByteArray.mk #[48]).size = 1 := rfl
        have LI := Lib.hid (flines_any (incL (cyN n 0)) (cyT n K) u5 wr (by simp [incL, incW, cyN]; omega) MT.out TX.out ((HM.out.later B1.out).later (Q2.out)))
        have t0 : decide ((((K + 1 : Nat)) : Int) < k + 1) = false := decide_eq_false (by have := KK.out; omega)
        generalize bs ([105, 110, 99, 108, 117, 100, 101, 32] ++ n) = X1 at *
        generalize bs (incL (cyN n 0)) = X2 at *
        generalize ((K + 1 : Nat) : Int) = KI at *
        clear HT MT TX
        go_wp2_with fail
        refine LI.out.mono ?_
        rintro e w5 ⟨hb5, v5, rfl, hs, _⟩
        rw [CL.out] at hs ⊢
        obtain ⟨a5, c5, rfl⟩ := hs.shape
        have B5 : Hid (Below w.heap.size w w5) := BW.out.trans (hb5.mono BW.out.size)
        clear hs hb5 LI
        go_wp2
        go_ret
        exact ⟨rfl, B5.out⟩
theorem file_cycle (a : ByteArray) (k : Int) (w : World) (hm : MX w) (hs : a.size ≤ 140737488351232) : Calls Tryz.prog 8 #[.string a, .int .i64 k] w fun e w' => e = .returned (.bool true) ∧ Below w.heap.size w w' := by
  have := cycle_walk a.data.toList k w (by rw [size_list]; omega) hm
  rw [bs_of] at this
  exact this
end Go.Proofs.YtfgcbdjkimkgpaaGreatDoor
namespace Go.Proofs.YtfgcbdjkimkgpaaGreatDoor.fileCycle
open Go.ChangeShapes Go.WideShapes Go.ChangeAt Go.RowKit
open Go.ChangeMaps (open_string shut_string)
set_option linter.unusedVariables false

set_option maxRecDepth 100000 in
theorem contract (H : Type) (enc : TypeId × Value → H) (W : World) (base : Nat) (args : Array Value) (ds gs : List (DataW H)) (before : List MemPlace)
    (hval : ∀ (j : Nat) t v, Tryz.f8.params[j]? = some t → args[j]? = some v → Value.okWide Tryz.prog W .any base t v)
    (hW : DataW.Whole enc Tryz.prog Tryz.f8.params.toList Rows.fileCycleSpec.vars false W args.toList ds gs before)
    (hsz : (DataW.weightsEach Tryz.prog (Tryz.f8.params.toList ++ Rows.fileCycleSpec.plain.varTypes Tryz.prog) (ds ++ gs)).all (· ≤ reachBytes) = true) (hsh : W.ShapedOpen Tryz.prog) :
    Calls Tryz.prog 8 args W fun e W' => ∃ v, e = .returned v ∧ Rows.fileCycleSpec.post enc Tryz.prog Tryz.f8 false true false false W args v W' := by
  have hW' := hW
  obtain ⟨p, q, hA0, hV, rfl, hfz, hnd⟩ := hW
  have hA : DataW.TrodAll enc Tryz.prog W 0 (fun _ => true) true Tryz.f8.params.toList args.toList ds p := hA0
  rw [Tryz.params8] at hA hval hsz
  obtain ⟨v0, vs0, d0, ds0, p0, q0, hargs, rfl, rfl, h0, r0⟩ := trodAll_cons hA
  obtain ⟨v1, vs1, d1, ds1, p1, q1, rfl, rfl, rfl, h1, r1⟩ := trodAll_cons r0
  obtain ⟨rfl, rfl, rfl⟩ := trodAll_nil r1
  obtain rfl : args = #[v0, v1] := Array.ext' hargs
  obtain ⟨rfl, rfl⟩ := trodVars_none hV
  obtain ⟨a0, rfl, rfl, rfl, w0⟩ := open_string Tryz.underlying9 (hval 0 9 v0 rfl rfl) h0
  have b0 : Rows.uptoBulk (DataW.lit (H := H) (.string a0.data.toList)) = a0.size + 1 := by simp only [Rows.uptoBulk]; rw [size_list]
  have s0 : a0.size ≤ 140737488351232 := by have := sized_string (j := 0) hsz rfl rfl; rw [size_list] at this; exact this
  obtain ⟨a1, rfl, rfl, rfl, w1⟩ := open_int Tryz.underlying3 (hval 1 3 v1 rfl rfl) h1
  clear hA0
  refine (file_cycle a0 a1 W (mx_of hsh) s0).mono fun e W' ⟨he, bel⟩ => ?_
  subst he
  exact ⟨_, rfl, _, _, _, [], _, [], hW', trodAll_mk1 (shut_bool Tryz.underlying4 _), (trodAll_cons_mk (shut_string Tryz.underlying9 w0) (trodAll_cons_mk (shut_int Tryz.underlying3 w1) trodAll_mk0)), rfl, bel.frame _, fun h => by cases h⟩

theorem laid_met (os : Os) : laidMet Tryz.prog Rows.fileCycleRow.laid ((laidWorld os).forCall (fun _ _ => 0) ⟨#[], #[.string ByteArray.empty, .int .i64 0], []⟩).memory :=
  laidMet_of_run' 8 (by kernel_rfl) (by kernel_rfl)
theorem reads (os : Os) {H : Type} (enc : TypeId × Value → H) : ∃ places, DataW.whole enc Tryz.prog ((laidWorld os).forCall (fun _ _ => 0) ⟨#[], #[.string ByteArray.empty, .int .i64 0], []⟩).memory Tryz.f8.params.toList Rows.fileCycleSpec.vars false (#[.string ByteArray.empty, .int .i64 0] : Array Value).toList 8 = some ([.lit (.string []), .lit (.int .i64 0)], [], places) :=
  ⟨[], by kernel_rfl⟩

set_option maxRecDepth 100000 in
theorem lifted (os : Os) (started : os.Started) (H : Type) (enc : TypeId × Value → H) (F : Stop.Interp) :
    ReturnsInHanded {} Tryz.checked os 8 .any ((OpenSpec.ofChange Rows.fileCycleSpec).preRow enc Tryz.prog Tryz.f8 Rows.fileCycleRow.domain false Rows.fileCycleRow.laid) (((OpenSpec.ofChange Rows.fileCycleSpec).at F).post enc Tryz.prog Tryz.f8 false true false false) := by
  obtain ⟨places, hx⟩ := reads os enc
  refine returnsInHanded_of_row (C := Tryz.checked) (s := (OpenSpec.ofChange Rows.fileCycleSpec)) own started (by kernel_rfl) Tryz.func8
    (witness_row_at (enc := enc) (C := Tryz.checked) false (laidWorld os) #[.string ByteArray.empty, .int .i64 0] rfl (by kernel_rfl) (by kernel_rfl) (by kernel_rfl)
      (OpenSpec.preRow_of_cond 8 hx (by kernel_rfl) (fun k hk => by cases hk) (by kernel_rfl) (laid_met os))) ?_
  intro W base args ds gs before hval hW _ _ hsz hL hsh _
  exact contract H enc W base args ds gs before hval hW hsz hsh

theorem said : Rows.FileCycleSaid :=
  OpenClaim.holds_of_cond 8 Tryz.f8 rfl rfl rfl rfl rfl rfl rfl ⟨rfl, rfl, rfl, rfl, rfl⟩ rfl rfl rfl rfl rfl (by kernel_rfl) Tryz.func8 (by kernel_rfl)
    (of_decide_eq_true (by kernel_rfl)) (by unfold Func.isWrapper; first | (rw [if_pos (by decide +kernel)]; kernel_rfl) | (rw [if_neg (by decide +kernel)]; exact ⟨rfl, rfl⟩))
    (fun os started H enc _ F => by rw [OpenClaim.pre_eq_preRow]; exact lifted os started H enc F)

theorem plain (f : FuncId) (fn : Func) (hf : Tryz.pinned.checked.prog.funcNamed Rows.fileCycleRow.func = some f) (hfn : Tryz.pinned.checked.prog.funcs[f]? = some fn) :
    false = Tryz.pinned.checked.prog.looks [] ∧ ∀ (j : Nat) t, fn.params[j]? = some t → Tryz.pinned.checked.prog.wantsStandIn t = false := by
  obtain rfl : f = 8 := Option.some.inj ((show Tryz.prog.funcNamed Rows.fileCycleRow.func = some 8 by kernel_rfl).symm.trans hf) |>.symm
  obtain rfl : fn = Tryz.f8 := (Option.some.inj (Tryz.func8.symm.trans hfn)).symm
  refine ⟨by kernel_rfl, fun j t ht => ?_⟩
  rw [Tryz.params8] at ht
  have hm := Array.mem_of_getElem? ht
  simp at hm
  rcases hm with rfl | rfl
  · exact (show Tryz.prog.wantsStandIn 9 = false by kernel_rfl)
  · exact (show Tryz.prog.wantsStandIn 3 = false by kernel_rfl)
theorem card : Rows.FileCycleCardSaid :=
  Claim7.holds_tied_plain_at .later [] _ _ _ _ said (fun _ h => by cases h) (by kernel_rfl) (fun _ h => by cases h) fileCycle_row_tie rfl ⟨rfl, rfl⟩ (by kernel_rfl) rfl plain (by kernel_rfl)
end Go.Proofs.YtfgcbdjkimkgpaaGreatDoor.fileCycle
