/-
  The reference's MacroFault: the walk. Condition: the macros' values have at most 2^32 bytes.
-/
import Derived.Test.YtfgcbdjkimkgpaaGreatDoorGc16MOd
namespace Go.Proofs.YtfgcbdjkimkgpaaGreatDoor
set_option maxRecDepth 100000
set_option linter.unusedVariables false
open Go.ChangeShapes Go.WideShapes Go.ChangeAt Go.RowKit

theorem nm_names {z : List Mc} {i : Nat} (h : i < z.length) : (names z).getD i [] = nm z i := by
  unfold names nm
  rw [List.getD, List.getElem?_map, List.getElem?_eq_getElem h, List.getD, List.getElem?_eq_getElem h]; rfl
theorem take_names (z : List Mc) (k : Nat) : (names z).take k = names (z.take k) := by unfold names; rw [List.map_take]
set_option maxHeartbeats 8000000 in
set_option maxRecDepth 100000 in
theorem mfault_any (z : List Mc) (v : Value) (w : World) (h : McIn w v z) (hx : ∀ m ∈ z, m.1.length ≤ maxLen ∧ m.2.length ≤ 4294967296) :
    Calls Tryz.prog 74 #[v] w fun e w' => ∃ E, e = .returned (.int .i64 E) ∧ FtRes z E ∧ Below w.heap.size w w' := by
  by_cases hn : z.length ≤ 40
  · have MN := Lib.hid (mnames_any z v w h (by omega))
    have HN := Lib.hid hn
    have HM := Lib.hid h
    have HX := Lib.hid hx
    have NS : Hid ((names z).length ≤ 17592186044416 ∧ ∀ x ∈ names z, x.length ≤ 9223372036854775807) := by
      refine ⟨by unfold names; rw [List.length_map]; omega, fun x hxx => ?_⟩
      obtain ⟨m, hm, rfl⟩ := List.mem_map.1 hxx
      have := (hx m hm).1; unfold maxLen at this; omega
    have NL : Hid ((names z).length = z.length) := by show _ = _; unfold names; rw [List.length_map]
    have t1 : decide (40 < z.length) = false := decide_eq_false (by omega)
    have t1' : decide (40 < (z.length : Int)) = false := decide_eq_false (by omega)
    obtain ⟨a, cap, rfl, _⟩ := h
    clear hx
    obtain ⟨i0, hi, hz0, hz1, hz2⟩ := info_parts (show (Tryz.prog.info? 145).map (fun i => (i.zero, i.size, i.bytes)) = some (some (.int .u64 0), 1, 8) by kernel_rfl)
    have IH := Lib.hid hi; clear hi
    go_enter Tryz.func74, Tryz.ntmps74
    go_wp2_with fail
    refine MN.out.mono ?_
    rintro e w1 ⟨vn, rfl, on, hb1⟩
    have B1 := Lib.hid hb1
    have NI := Lib.hid (SIn.own on NS.out.1 NS.out.2)
    obtain ⟨an, cn, rfl, hcn, _⟩ := NI.out
    have MZ := Lib.hid (HM.out.later hb1)
    have CN := Lib.hid hcn
    clear hb1 on MN HM hcn
    rcases MZ.out.open with ⟨rfl, _, _, _⟩ | ⟨hp, b, off, cap', e1, hcap, hlt, hc⟩
    · obtain ⟨w2, r2, o2, g2⟩ := run_make_full (P := Tryz.prog) w1 w1.heap.size 144 145 i0 (.int .u64 0) 1 Tryz.underlying144 IH.out hz0 hz1 .i64 .i64 0 (by omega) (by unfold maxLen; omega) (Nat.le_refl _)
      have r3 : (Instr.makeSlice 144 (.int .i64 0) (.int .i64 0)).run Tryz.prog w1 = .ok (.slice (some ⟨w1.heap.size, 0, none⟩) 0 0) w2 := r2
      have B2 : Hid (Below w.heap.size w w2) := B1.out.grown g2 B1.out.size (fun k hk => by cases hk)
      clear r2 o2 g2
      go_wp2_with fail
      go_rounds 1
      go_rounds 1
      go_rounds 1
      go_ret
      exact ⟨0, rfl, .inr ⟨HN.out, .inr ⟨rfl, .inr ⟨fun m hm => absurd hm List.not_mem_nil, .inr ⟨⟨[], (OI.start []).ord, fun m => Iff.rfl⟩, rfl⟩⟩⟩⟩, B2.out⟩
    · obtain ⟨rfl, rfl⟩ : a = some ⟨b, off, none⟩ ∧ cap = cap' := by simpa using e1
      have HC : Hid (∀ W, Below w1.heap.size w1 W → ∀ k, k < z.length → W.cell? ⟨b, off + k * 2, none⟩ = some (.string (bs (nm z k))) ∧ W.cell? ⟨b, off + k * 2 + 1, none⟩ = some (.string (bs (vl z k)))) := fun W hW k hk => ⟨cell_later hW (hc k _ (at_some hk)).1, cell_later hW (hc k _ (at_some hk)).2⟩
      have HL : Hid (∀ k, k < z.length → (nm z k).length ≤ 9223372036854775807 ∧ (vl z k).length ≤ 4294967296) := fun k hk => ⟨by have := (HX.out _ (mem_at hk)).1; unfold maxLen at this; omega, (HX.out _ (mem_at hk)).2⟩
      have HD : Hid (∀ k, k < z.length → z.drop k = (nm z k, vl z k) :: z.drop (k + 1)) := fun k hk => drop_at hk
      have HT : Hid (∀ k, k < z.length → z.take (k + 1) = z.take k ++ [(nm z k, vl z k)]) := fun k hk => take_at hk
      have HI : Hid (∀ k, k < z.length → (nm z k, vl z k) ∈ z) := fun k hk => mem_at hk
      have PX : Hid (∀ W, Below w1.heap.size w1 W → ∀ k, k ≤ z.length → ∀ x, Calls Tryz.prog 46 #[.slice an k cn, .string (bs x)] W fun e w' => e = .returned (.int .i64 (placeIx (names (z.take k)) x)) ∧ w' = W) := fun W hW k hk x => by
        have := place_ix ((NI.out.later hW).part (k := k) (by rw [NL.out]; exact hk)) x
        rw [take_names] at this
        exact this
      have BW : Hid (∀ W, Below w1.heap.size w1 W → Below w.heap.size w W) := fun W hW => B1.out.trans (hW.mono B1.out.size)
      obtain ⟨gb, goff, rfl⟩ : ∃ gb goff, an = some ⟨gb, goff, none⟩ := by
        rcases NI.out.open with ⟨e0, _⟩ | ⟨_, b', off', c', e', _⟩
        · have := NL.out; rw [e0] at this; simp at this; omega
        · simp at e'; exact ⟨b', off', e'.1⟩
      have ncap : z.length ≤ cn := by have := CN.out; rw [NL.out] at this; exact this
      clear e1 hc hlt
      generalize hf : nm z = f at *
      generalize hg : vl z = g at *
      have FN : Hid (nm z = f) := hf
      have GN : Hid (vl z = g) := hg
      clear hf hg
      rw [NL.out]
      go_wp2_with fail
      go_loopw [23] (fun i wr => ∃ k : Nat, k ≤ z.length ∧ i = .int .i64 (k : Int) ∧ formR [] z = formR (names (z.take k)) (z.drop k) ∧ Below w1.heap.size w1 wr) (fun i _ => z.length - (intOf i).toNat)
      case atStart => exact ⟨0, Nat.zero_le _, rfl, rfl, Below.refl _ _⟩
      case round =>
        obtain ⟨k, hk, rfl, q1, q2⟩ := hrel
        have Q1 := Lib.hid q1; have Q2 := Lib.hid q2; clear q1 q2
        by_cases hk2 : k < z.length
        · obtain ⟨c1, c2⟩ := HC.out wr Q2.out k hk2
          obtain ⟨l1, l2⟩ := HL.out k hk2
          have D1 := Lib.hid (HD.out k hk2)
          have T1 := Lib.hid (HT.out k hk2)
          have PK := Lib.hid (fun W hW => PX.out W hW k hk (f k))
          generalize f k = x at *
          generalize g k = y at *
          have ST := Lib.hid (stay_new wr (.string (bs x)) (.string (bs y)))
          have BA : Hid (Below w1.heap.size w1 (wr.alloc (.cells #[.string (bs x), .string (bs y)] 72))) := Q2.out.alloc Q2.out.size _
          have CA := Lib.hid (calls_any (bs y) (wr.alloc (.cells #[.string (bs x), .string (bs y)] 72)) (by rw [bs_size]; exact l2))
          rw [bs_list] at CA
          have L1 := Lib.hid l1
          clear l1 l2
          go_wp2_with fail
          refine CA.out.mono ?_
          rintro e w2 ⟨hb2, (⟨T, u, hT, hTl, rfl, hC⟩ | ⟨hT, rfl⟩)⟩
          · have B2 : Hid (Below w1.heap.size w1 w2) := BA.out.trans (hb2.mono BA.out.size)
            have S2 := Lib.hid (ST.out.later hb2)
            obtain ⟨d1, d2⟩ := S2.out.cells
            have TT := Lib.hid hT
            clear hb2 hT hTl hC CA ST
            go_wp2_with fail
            refine (goodName_any (bs x) _ (by rw [bs_size]; exact L1.out)).mono ?_
            rintro e w3 ⟨rfl, h3⟩
            rw [h3, bs_list]
            clear h3 w3
            cases hg : good x
            · have F3 : Hid (formR [] z = 3) := by show _ = _; rw [Q1.out, D1.out, formR, if_pos hg]
              clear hg
              go_wp2
              go_ret
              exact ⟨3, rfl, .inr ⟨HN.out, .inl ⟨by rw [F3.out]; decide, F3.out.symm⟩⟩, BW.out _ B2.out⟩
            · have FS : Hid (formR [] z = if (names (z.take k)).contains x then 6 else formR (names (z.take k) ++ [x]) (z.drop (k + 1))) := by
                show _ = _
                rw [Q1.out, D1.out, formR, if_neg (by rw [hg]; decide), if_neg (by rw [TT.out]; simp)]
              clear hg
              have k0 : (0 : Int) ≤ (k : Int) := by omega
              have k1 : (k : Int) ≤ (cn : Int) := by omega
              have k2 : k ≤ cn := by omega
              by_cases hm : x ∈ names (z.take k)
              · obtain ⟨i, hi, _, _⟩ := placeIx_some hm
                rw [hi] at PK
                have F6 : Hid (formR [] z = 6) := by show _ = _; rw [FS.out, if_pos (List.contains_iff_mem.2 hm)]
                have t5 : decide (0 ≤ (i : Int)) = true := decide_eq_true (by omega)
                clear hm hi
                go_wp2_with fail
                go_quiet (first | (go_at_call 46; exact Calls.quiet_of_same (PK.out _ (below_drewN B2.out _))))
                go_wp2
                go_ret
                exact ⟨6, rfl, .inr ⟨HN.out, .inl ⟨by rw [F6.out]; decide, F6.out.symm⟩⟩, BW.out _ (below_drewN B2.out _)⟩
              · rw [placeIx_none hm] at PK
                have F6 : Hid (formR [] z = formR (names (z.take (k + 1))) (z.drop (k + 1))) := by
                  show _ = _
                  rw [FS.out, if_neg (fun e => hm (List.contains_iff_mem.1 e)), T1.out, names_snoc]
                clear hm
                go_wp2_with fail
                go_quiet (first | (go_at_call 46; exact Calls.quiet_of_same (PK.out _ (below_drewN B2.out _))))
                go_wp2
                go_roundw
                case rel => exact ⟨k + 1, by omega, by go_num, F6.out, below_drewN B2.out _⟩
                case measure => simp [intOf]; omega
          · have B2 : Hid (Below w1.heap.size w1 w2) := BA.out.trans (hb2.mono BA.out.size)
            have F3 : Hid (formR [] z = 3) := by
              show _ = _
              rw [Q1.out, D1.out, formR, if_pos (show tk none (x, y).2 = none from hT)]
              split
              · rfl
              · rfl
            clear hb2 hT CA ST
            go_wp2
            go_ret
            exact ⟨3, rfl, .inr ⟨HN.out, .inl ⟨by rw [F3.out]; decide, F3.out.symm⟩⟩, BW.out _ B2.out⟩
        · obtain rfl : k = z.length := by omega
          have F0 : Hid (formR [] z = 0) := by show _ = _; rw [Q1.out, List.drop_length]; rfl
          rename World => W2
          have ND := Lib.hid (formR_zero z [] F0.out).1
          have GT : Hid (∀ k, k < z.length → tk none (g k) ≠ none) := fun k hk => ((formR_zero z [] F0.out).2.1 _ (HI.out k hk)).2
          obtain ⟨w3, r3, o3, g3⟩ := run_make_full (P := Tryz.prog) W2 W2.heap.size 144 145 i0 (.int .u64 0) 1 Tryz.underlying144 IH.out hz0 hz1 .i64 .i64 z.length (by rw [hz2]; omega) (by unfold maxLen; omega) (Nat.le_refl _)
          rw [zeros_u] at o3
          have R0 : Hid (RQ W2.heap.size W2.heap.size (List.replicate z.length 0#64) w3) := by
            show World.ownsRow _ _ _ _ _ _ _
            rw [List.length_replicate]; exact o3
          have B3 : Hid (Below W2.heap.size W2 w3) := (Below.refl _ _).grown g3 (Nat.le_refl _) (fun k hk => by cases hk)
          have B2X : Hid (∀ W, Below W2.heap.size W2 W → Below w1.heap.size w1 W) := fun W hW => Q2.out.trans (hW.mono Q2.out.size)
          have HLs : Hid (W2.heap.size < w3.heap.size) := (R0.out.lt W2.heap.size rfl).2
          clear Q1 Q2 hk hk2 o3 g3
          go_wp2_with fail
          go_loopw [55] (fun i wq => ∃ (k : Nat) (L : List Bv), k ≤ z.length ∧ i = .int .i64 (k : Int) ∧ L.length = z.length ∧ (∀ a, a < k → RowIs z (usesR (g a)) (L.getD a 0#64)) ∧ (∀ a, k ≤ a → a < z.length → L.getD a 0#64 = 0#64) ∧ (∀ m ∈ z.take k, ∀ x ∈ usesR m.2, x ∈ names z) ∧ RQ W2.heap.size W2.heap.size L wq ∧ Below W2.heap.size W2 wq) (fun i _ => z.length - (intOf i).toNat)
          case atStart => exact ⟨0, List.replicate z.length 0#64, Nat.zero_le _, rfl, List.length_replicate, fun a ha => absurd ha (Nat.not_lt_zero _), fun a _ ha => by rw [List.getD, List.getElem?_replicate, if_pos ha]; rfl, fun m hm => absurd hm (by simp), R0.out, B3.out⟩
          case round =>
            obtain ⟨k, L, hk, rfl, q0, q1, q2, q3, q4, q5⟩ := hrel
            have Q0 := Lib.hid q0; have Q1 := Lib.hid q1; have Q2 := Lib.hid q2; have Q3 := Lib.hid q3; have Q4 := Lib.hid q4; have Q5 := Lib.hid q5; clear q0 q1 q2 q3 q4 q5
            rename World => W4
            by_cases hk2 : k < z.length
            · obtain ⟨c1, c2⟩ := HC.out W4 (B2X.out _ Q5.out) k hk2
              obtain ⟨l1, l2⟩ := HL.out k hk2
              have T1 := Lib.hid (HT.out k hk2)
              have GK := Lib.hid (GT.out k hk2)
              generalize f k = x at *
              generalize hgy : g k = y at *
              have GY := Lib.hid hgy; clear hgy
              have BA : Hid (Below W2.heap.size W2 (W4.alloc (.cells #[.string (bs x), .string (bs y)] 72))) := Q5.out.alloc Q5.out.size _
              have RA : Hid (RQ W2.heap.size W2.heap.size L (W4.alloc (.cells #[.string (bs x), .string (bs y)] 72))) := Q4.out.alloc _
              have CA := Lib.hid (calls_any (bs y) (W4.alloc (.cells #[.string (bs x), .string (bs y)] 72)) (by rw [bs_size]; exact l2))
              rw [bs_list] at CA
              have L2 := Lib.hid l2
              clear l1 l2
              go_wp2_with fail
              refine CA.out.mono ?_
              rintro e w5 ⟨hb5, (⟨T, u, hT, hTl, rfl, hC⟩ | ⟨hT, rfl⟩)⟩
              · have B5 : Hid (Below W2.heap.size W2 w5) := BA.out.trans (hb5.mono BA.out.size)
                have R5 := Lib.hid (RQ.later RA.out hb5)
                have CD := Lib.hid (called_any T u w5 hC (by have := L2.out; omega) (tk_good y none T hT))
                have UE : Hid (usesR y = dd T) := usesR_of hT
                have UG : Hid (∀ x ∈ dd T, x.length ≤ 9223372036854775807) := fun x hx => by have := (good_len (tk_good y none T hT x ((mem_dd x T).1 hx))).2; omega
                have UL : Hid ((dd T).length ≤ 4294967296) := by have h1 := dd_le T; have h2 := L2.out; show _ ≤ _; omega
                clear hb5 hT hTl hC CA
                generalize dd T = U at *
                go_wp2_with fail
                refine CD.out.mono ?_
                rintro e w6 ⟨u6, rfl, o6, hb6⟩
                have B6 : Hid (Below W2.heap.size W2 w6) := B5.out.trans (hb6.mono B5.out.size)
                have R6 := Lib.hid (RQ.later R5.out hb6)
                have O6 := Lib.hid o6
                have G6 : Hid (W2.heap.size < w5.heap.size) := (R5.out.lt W2.heap.size rfl).2
                obtain ⟨au, cu, rfl⟩ : ∃ au cu, u6 = .slice au U.length cu := by
                  rcases o6.2 with ⟨h, h0⟩ | ⟨g', c', cur, h, _⟩
                  · exact ⟨_, _, by rw [h, h0]⟩
                  · exact ⟨_, _, h⟩
                clear hb6 o6 CD
                have ul := UL.out
                go_wp2_with fail
                go_loopw [69] (fun i wp => ∃ (s : Nat) (M : List Bv), s ≤ U.length ∧ i = .int .i64 (s : Int) ∧ M.length = z.length ∧ RowIs z (U.take s) (M.getD k 0#64) ∧ (∀ a, a ≠ k → M.getD a 0#64 = L.getD a 0#64) ∧ (∀ x ∈ U.take s, x ∈ names z) ∧ RQ W2.heap.size W2.heap.size M wp ∧ SO w5.heap.size (.slice au U.length cu) U wp ∧ Below W2.heap.size W2 wp) (fun i _ => U.length - (intOf i).toNat)
                case atStart => exact ⟨0, L, Nat.zero_le _, rfl, Q0.out, by rw [Q2.out k (Nat.le_refl _) hk2]; exact row_zero z, fun _ _ => rfl, fun x hx => absurd hx (by simp), R6.out, O6.out, B6.out⟩
                case round =>
                  obtain ⟨s, M, hs, rfl, p0, p1, p2, p3, p4, p5, p6⟩ := hrel
                  have P0 := Lib.hid p0; have P1 := Lib.hid p1; have P2 := Lib.hid p2; have P3 := Lib.hid p3; have P4 := Lib.hid p4; have P5 := Lib.hid p5; have P6 := Lib.hid p6; clear p0 p1 p2 p3 p4 p5 p6
                  rename World => W7
                  by_cases hs2 : s < U.length
                  · obtain ⟨gu, rfl, hgu⟩ : ∃ gu, au = some ⟨gu, 0, none⟩ ∧ w5.heap.size ≤ gu := by
                      rcases P5.out.2 with ⟨_, e0⟩ | ⟨g', c', cur, hv, hb, _⟩
                      · omega
                      · simp at hv; exact ⟨g', hv.1, hb⟩
                    have cu1 := World.ownsRow.cells P5.out (g := gu) rfl s (encStr (U.getD s [])) (by rw [List.getElem?_map, List.getD, List.getElem?_eq_getElem hs2]; rfl)
                    rw [add_off, encStr_bs] at cu1
                    have US : Hid (U.take (s + 1) = U.take s ++ [U.getD s []]) := by show _ = _; rw [List.take_add_one, List.getElem?_eq_getElem hs2, List.getD, List.getElem?_eq_getElem hs2]; rfl
                    have UM : Hid (U.getD s [] ∈ U) := by show _ ∈ _; rw [List.getD, List.getElem?_eq_getElem hs2]; exact List.getElem_mem hs2
                    generalize U.getD s [] = q at *
                    have PQ := Lib.hid (PX.out W7 (B2X.out _ P6.out) z.length (Nat.le_refl _) q)
                    rw [List.take_length] at PQ
                    have GU := Lib.hid hgu; clear hgu
                    by_cases hq : q ∈ names z
                    · obtain ⟨i, hi, hi1, hi2⟩ := placeIx_some hq
                      rw [hi] at PQ
                      have hi3 : i < z.length := by rw [NL.out] at hi1; exact hi1
                      have hi4 : nm z i = q := by rw [← hi2, nm_names hi3]
                      have NR : Hid (RowIs z (U.take (s + 1)) (M.getD k 0#64 ||| one i)) := by rw [US.out, ← hi4]; exact row_step ND.out HN.out P1.out hi3
                      have kM : k < M.length := by have := P0.out; omega
                      obtain ⟨d1, d2⟩ := P4.out.cell kM
                      have PU := Lib.hid (P4.out.put kM (M.getD k 0#64 ||| one i))
                      have ow := or_walk (M.getD k 0#64) i (by omega)
                      have MS : Hid ((M.set k (M.getD k 0#64 ||| one i)).getD k 0#64 = M.getD k 0#64 ||| one i) := by show _ = _; rw [List.getD, List.getElem?_set_self kM]; rfl
                      have QN := Lib.hid hq
                      generalize hmk : M.getD k 0#64 = mk at *
                      generalize mk ||| one i = m2 at *
                      clear hq hi hi1 hi2 hi4 hmk
                      have t7 : decide ((i : Int) < 0) = false := decide_eq_false (by omega)
                      go_wp2_with fail
                      refine PQ.out.mono ?_
                      rintro e w8 ⟨rfl, h8⟩
                      rw [h8]
                      clear h8 w8
                      go_wp2_with fail
                      go_region
                      go_wp2
                      go_roundw
                      case rel =>
                        refine ⟨s + 1, M.set k m2, by omega, by go_num, by rw [List.length_set]; exact P0.out, by rw [MS.out]; exact NR.out, fun a ha => ?_, fun y' hy' => ?_, RQ.drew PU.out, World.ownsRow.drew (ownsRow_setCell_other P5.out (fun hh => ?_) _), (P6.out.setCell (Nat.le_refl _) _).drew⟩
                        · rw [List.getD, List.getElem?_set_ne (Ne.symm ha), ← List.getD]; exact P2.out a ha
                        · rw [US.out] at hy'
                          rcases List.mem_append.1 hy' with hy' | hy'
                          · exact P3.out _ hy'
                          · rw [List.mem_singleton.1 hy']; exact QN.out
                        · have h1 := GU.out
                          have h2 := G6.out
                          simp [Value.ownBlock] at hh
                          omega
                      case measure => simp [intOf]; omega
                    · rw [placeIx_none hq] at PQ
                      have NO : Hid (∃ m ∈ z, ∃ x ∈ usesR m.2, x ∉ names z) := ⟨(f k, g k), HI.out k hk2, q, by show q ∈ usesR (g k); rw [GY.out, UE.out]; exact UM.out, hq⟩
                      clear hq
                      go_wp2_with fail
                      refine PQ.out.mono ?_
                      rintro e w8 ⟨rfl, h8⟩
                      rw [h8]
                      clear h8 w8
                      go_wp2
                      go_ret
                      exact ⟨5, rfl, .inr ⟨HN.out, .inr ⟨F0.out, .inl ⟨NO.out, rfl⟩⟩⟩, BW.out _ (B2X.out _ P6.out)⟩
                  · obtain rfl : s = U.length := by omega
                    go_wp2
                    go_roundw
                    case rel =>
                      refine ⟨k + 1, M, by omega, by go_num, P0.out, fun a ha => ?_, fun a h1 h2 => ?_, fun m hm => ?_, P4.out, P6.out⟩
                      · rcases Nat.lt_succ_iff_lt_or_eq.1 ha with h | h
                        · rw [P2.out a (by omega)]; exact Q1.out a h
                        · rw [h, GY.out, UE.out]; have := P1.out; rw [List.take_length] at this; exact this
                      · rw [P2.out a (by omega)]; exact Q2.out a (by omega) h2
                      · rw [T1.out] at hm
                        rcases List.mem_append.1 hm with hm | hm
                        · exact Q3.out m hm
                        · rw [List.mem_singleton.1 hm]
                          show ∀ x ∈ usesR y, _
                          rw [UE.out]
                          have := P3.out; rw [List.take_length] at this; exact this
                    case measure => simp [intOf]; omega
              · exact absurd hT GK.out
            · obtain rfl : k = z.length := by omega
              have RF : Hid (Refs z) := by have := Q3.out; rw [List.take_length] at this; exact this
              have OR := Lib.hid (ordered_any z (fun a => L.getD a 0#64) W2.heap.size 0 z.length W4 HN.out hp ND.out RF.out (fun i hi => by rw [GN.out]; exact Q1.out i hi) (fun i hi => by rw [Nat.zero_add]; exact (Q4.out.cell (by have := Q0.out; omega)).1))
              go_wp2_with fail
              refine OR.out.mono ?_
              rintro e w9 ⟨a9, o9, c9, rfl, h1, h2, hb9⟩
              have B9 : Hid (Below w.heap.size w w9) := (BW.out _ (B2X.out _ Q5.out)).trans (hb9.mono (BW.out _ (B2X.out _ Q5.out)).size)
              by_cases hl : o9.length < z.length
              · have SK : Hid (Stuck z) := ⟨names o9, h1.more hl, fun m hm hne => (h2 hl m hm).resolve_left hne⟩
                clear h1 h2 hb9 OR
                go_wp2
                go_ret
                exact ⟨8, rfl, .inr ⟨HN.out, .inr ⟨F0.out, .inr ⟨RF.out, .inl ⟨SK.out, rfl⟩⟩⟩⟩, B9.out⟩
              · have OK : Hid (∃ o, Ord o ∧ ∀ m, m ∈ o ↔ m ∈ z) := ⟨o9, h1.ord, h1.done ND.out (by omega)⟩
                have t9 : decide (o9.length < z.length) = false := decide_eq_false hl
                clear h1 h2 hb9 OR hl
                go_wp2
                go_ret
                exact ⟨0, rfl, .inr ⟨HN.out, .inr ⟨F0.out, .inr ⟨RF.out, .inr ⟨OK.out, rfl⟩⟩⟩⟩, B9.out⟩
  · have t1 : decide (40 < (z.length : Int)) = true := decide_eq_true (by omega)
    have HN := Lib.hid hn
    obtain ⟨a, cap, rfl, _⟩ := h
    clear hn hx
    go_enter Tryz.func74, Tryz.ntmps74
    go_wp2
    go_ret
    exact ⟨2, rfl, .inl ⟨by have := HN.out; omega, rfl⟩, Below.refl _ _⟩
end Go.Proofs.YtfgcbdjkimkgpaaGreatDoor
