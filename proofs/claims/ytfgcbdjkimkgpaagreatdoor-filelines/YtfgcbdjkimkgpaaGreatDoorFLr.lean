/-
  What the reference's FileLines answers: what Lines answers. Condition: texts of at most 2^32 bytes, names of lengths that are ints.
-/
import Derived.Test.YtfgcbdjkimkgpaaGreatDoorFIr
namespace Go.Proofs.YtfgcbdjkimkgpaaGreatDoor
set_option maxRecDepth 100000
set_option linter.unusedVariables false
open Go.ChangeShapes Go.WideShapes Go.ChangeAt Go.RowKit

theorem txF_nod : ∀ {T : List Mc} {seen : List Str}, txF seen T = 0 → (T.map (·.1)).Nodup ∧ ∀ m ∈ T, m.1 ∉ seen
  | [], _, _ => ⟨List.nodup_nil, fun m hm => absurd hm List.not_mem_nil⟩
  | m :: r, seen, h => by
    unfold txF at h
    by_cases hg : good m.1 = false
    · rw [if_pos hg] at h; cases h
    rw [if_neg hg] at h
    by_cases hc : seen.contains m.1 = true
    · rw [if_pos hc] at h; cases h
    rw [if_neg hc] at h
    obtain ⟨h1, h2⟩ := txF_nod h
    refine ⟨List.nodup_cons.2 ⟨fun hm => ?_, h1⟩, fun x hx => ?_⟩
    · obtain ⟨x, hx, e⟩ := List.mem_map.1 hm
      exact h2 x hx (by rw [e]; exact List.mem_cons_self ..)
    · rcases List.mem_cons.1 hx with rfl | hx
      · exact fun k => hc (List.contains_iff_mem.2 k)
      · exact fun k => h2 x hx (List.mem_cons_of_mem _ k)
theorem txF_cons (seen : List Str) (m : Mc) (r : List Mc) : txF seen (m :: r) = if good m.1 = false then 3 else if seen.contains m.1 then 6 else txF (m.1 :: seen) r := rfl
def rvN (T : List Mc) (j : Nat) : List Str := ((T.take j).map (·.1)).reverse
theorem rvN_step {T : List Mc} {j : Nat} (h : j < T.length) : rvN T (j + 1) = nm T j :: rvN T j ∧ T.drop j = (nm T j, vl T j) :: T.drop (j + 1) := by
  have e := at_some h
  refine ⟨?_, ?_⟩
  · unfold rvN; rw [List.take_add_one, e, List.map_append, List.reverse_append]; rfl
  · have h2 : T[j] = (nm T j, vl T j) := by rw [List.getElem?_eq_getElem h] at e; exact Option.some.inj e
    rw [List.drop_eq_getElem_cons h, h2]
theorem rvN_mem {T : List Mc} {j i : Nat} (hi : i < j) (hj : j ≤ T.length) : nm T i ∈ rvN T j := by
  unfold rvN
  rw [List.mem_reverse, List.mem_map]
  refine ⟨(nm T i, vl T i), ?_, rfl⟩
  have h := mem_at (z := T.take j) (k := i) (by rw [List.length_take]; omega)
  have e1 : nm (T.take j) i = nm T i := by unfold nm; rw [List.getD, List.getD, List.getElem?_take_of_lt hi]
  have e2 : vl (T.take j) i = vl T i := by unfold vl; rw [List.getD, List.getD, List.getElem?_take_of_lt hi]
  rw [e1, e2] at h
  exact h
theorem rvN_not {T : List Mc} {j : Nat} {a : Str} (hj : j ≤ T.length) (h : ∀ i, i < j → nm T i ≠ a) : a ∉ rvN T j := by
  unfold rvN
  rw [List.mem_reverse, List.mem_map]
  rintro ⟨m, hm, rfl⟩
  obtain ⟨i, hi, e⟩ := List.getElem_of_mem hm
  rw [List.length_take] at hi
  rw [List.getElem_take] at e
  refine h i (by omega) ?_
  unfold nm
  rw [List.getD, List.getElem?_eq_getElem (by omega), e]; rfl
theorem un_le (T : List Mc) (op : List Str) : un T op ≤ T.length := List.length_filter_le _ _
theorem lnPost_bad {s : Str} {T : List Mc} {E : Int} {w w' : World} (h : linesR s T = ([], E)) (hb : Below w.heap.size w w') : LnPost s T w (.returned (.tuple #[.slice none 0 0, .int .i64 E])) w' :=
  ⟨hb, _, by rw [h], by rw [h]; exact sin_none _, by rw [h]; exact fun x hx => absurd hx List.not_mem_nil, by rw [h]; exact Nat.zero_le _⟩
set_option maxHeartbeats 8000000 in
theorem rflines_any (s : Str) (T : List Mc) (v : Value) (w : World) (hs : s.length ≤ 4294967296) (h : McIn w v T) (hx : ∀ m ∈ T, m.1.length ≤ maxLen ∧ m.2.length ≤ 4294967296) :
    Calls Tryz.prog 12 #[.string (bs s), v] w (LnPost s T w) := by
  have hh := h
  obtain ⟨ta, tc, rfl, hcap, _⟩ := hh
  have hbd := h.bound
  by_cases hl : 20 < T.length
  · have L := Lib.hid (show linesR s T = ([], 2) by unfold linesR; rw [if_pos hl])
    clear h hx hs
    go_enter Tryz.func12, Tryz.ntmps12
    go_wp2
    go_ret2
    exact lnPost_bad L.out (Below.refl _ _)
  · have hl' : T.length ≤ 20 := by omega
    have LF : Hid (∀ E, txF [] T = E → E ≠ 0 → linesR s T = ([], E)) := fun E h1 h2 => by unfold linesR; rw [if_neg hl, h1, if_pos h2]
    have LG : Hid (txF [] T = 0 → linesR s T = if (rdS T [] 0 s).1 ≠ 0 then ([], (rdS T [] 0 s).1) else ((rdS T [] 0 s).2.1, 0)) := fun h1 => by unfold linesR; rw [if_neg hl, h1, if_neg (by decide)]
    have HM : Hid (∀ W, Below w.heap.size w W → McIn W (.slice ta T.length tc) T) := fun W hW => h.later hW
    have HCt : Hid (∀ W, Below w.heap.size w W → ∀ i, i < T.length → ∃ b off, ta = some ⟨b, off, none⟩ ∧ W.cell? ⟨b, off + i * 2, none⟩ = some (.string (bs (nm T i))) ∧ W.cell? ⟨b, off + i * 2 + 1, none⟩ = some (.string (bs (vl T i)))) := fun W hW i hi => (h.later hW).get hi
    have RV : Hid (∀ j, j < T.length → rvN T (j + 1) = nm T j :: rvN T j ∧ T.drop j = (nm T j, vl T j) :: T.drop (j + 1)) := fun j hj => rvN_step hj
    have HX := Lib.hid hx; have HS := Lib.hid hs
    clear h hx hs hl
    go_enter Tryz.func12, Tryz.ntmps12
    go_wp2_with fail
    go_loopw [16] (fun i wr => ∃ j : Nat, j ≤ T.length ∧ i = .int .i64 (j : Int) ∧ txF [] T = txF (rvN T j) (T.drop j) ∧ Below w.heap.size w wr) (fun i _ => T.length - (intOf i).toNat)
    case atStart => exact ⟨0, Nat.zero_le _, rfl, rfl, Below.refl _ _⟩
    case round =>
      obtain ⟨j, hj, rfl, q1, q2⟩ := hrel
      have Q1 := Lib.hid q1; have Q2 := Lib.hid q2
      clear q1 q2
      by_cases hj2 : j < T.length
      · obtain ⟨b, off, rfl, c0, c1⟩ := HCt.out wr Q2.out j hj2
        obtain ⟨rv1, rv2⟩ := RV.out j hj2
        have T1 := Q1.out
        rw [rv2, txF_cons] at T1
        have TF := Lib.hid T1
        have RVJ := Lib.hid rv1
        have AL : Hid ((nm T j).length ≤ 9223372036854775807) := by have := (HX.out _ (mem_at hj2)).1; unfold maxLen at this; exact this
        obtain ⟨a, ha⟩ : ∃ a, a = nm T j := ⟨_, rfl⟩
        obtain ⟨at', hat⟩ : ∃ at', at' = vl T j := ⟨_, rfl⟩
        rw [← ha] at c0 TF RVJ AL
        rw [← hat] at c1
        clear ha hat T1 rv1 rv2 Q1
        have B2 : Hid (Below w.heap.size w (wr.alloc (.cells #[.string (bs a), .string (bs at')] 25))) := Q2.out.alloc Q2.out.size _
        have X2 := Lib.hid (blk_new wr #[.string (bs a), .string (bs at')] 25)
        obtain ⟨x0, x1⟩ := show _ ∧ _ from ⟨X2.out.cell (i := 0) rfl, X2.out.cell (i := 1) rfl⟩
        have GN := Lib.hid (goodName_any (bs a) (wr.alloc (.cells #[.string (bs a), .string (bs at')] 25)) (by rw [bs_size]; exact AL.out))
        rw [bs_list] at GN
        go_wp2_with fail
        refine GN.out.mono ?_
        rintro e w' ⟨rfl, hww⟩
        rw [hww]
        clear hww GN
        cases hg : good a
        · have E3 : Hid (txF [] T = 3) := by show _ = _; rw [TF.out, if_pos hg]
          have L := Lib.hid (LF.out 3 E3.out (by decide))
          clear hg TF
          go_wp2
          go_ret2
          exact lnPost_bad L.out B2.out
        · obtain ⟨w2, hw2⟩ : ∃ w2, w2 = wr.alloc (.cells #[.string (bs a), .string (bs at')] 25) := ⟨_, rfl⟩
          have TG : Hid (txF [] T = if (rvN T j).contains a = true then 6 else txF (a :: rvN T j) (T.drop (j + 1))) := by show _ = _; rw [TF.out, if_neg (by rw [hg]; decide)]
          have k0 : (0 : Int) ≤ (j : Int) := by omega
          have k1 : (j : Int) ≤ (tc : Int) := by omega
          have k2 : j ≤ tc := by omega
          rw [← hw2] at B2 X2 x0 x1
          have HW2 := Lib.hid hw2
          clear hg TF hw2
          rw [← HW2.out]
          clear HW2
          go_wp2_with fail
          go_loopw [29] (fun i wi => ∃ m : Nat, m ≤ j ∧ i = .int .i64 (m : Int) ∧ (∀ i, i < m → nm T i ≠ a) ∧ Below w2.heap.size w2 wi) (fun i _ => j - (intOf i).toNat)
          case atStart => exact ⟨0, Nat.zero_le _, rfl, fun i hi => absurd hi (Nat.not_lt_zero _), Below.refl _ _⟩
          case round =>
            obtain ⟨m, hm, rfl, p1, p2⟩ := hrel
            have P1 := Lib.hid p1; have P2 := Lib.hid p2
            clear p1 p2
            rename World => wi
            have BI : Hid (Below w.heap.size w wi) := B2.out.trans (P2.out.mono B2.out.size)
            by_cases hm2 : m < j
            · obtain ⟨b', off', e, d0, d1⟩ := HCt.out wi BI.out m (by omega)
              injection e with e
              injection e with f1 f2 _
              subst f1 f2
              have g2 : ((bs (nm T m)).toList == (bs a).toList) = decide (nm T m = a) := by rw [bs_toList, bs_toList, beq_dec]
              have BY : Hid (Below w2.heap.size w2 (wi.alloc (.cells #[.string (bs (nm T m)), .string (bs (vl T m))] 25))) := P2.out.alloc P2.out.size _
              have TY := Lib.hid (blk_new wi #[.string (bs (nm T m)), .string (bs (vl T m))] 25)
              obtain ⟨y0, y1⟩ := show _ ∧ _ from ⟨TY.out.cell (i := 0) rfl, TY.out.cell (i := 1) rfl⟩
              have x2 := (X2.out.later BY.out).cell (i := 0) rfl
              by_cases hnm : nm T m = a
              · rw [decide_eq_true hnm] at g2
                have E6 : Hid (txF [] T = 6) := by show _ = _; rw [TG.out, if_pos (List.contains_iff_mem.2 (by rw [← hnm]; exact rvN_mem hm2 hj))]
                have L := Lib.hid (LF.out 6 E6.out (by decide))
                have BZ := Lib.hid (B2.out.trans (BY.out.mono B2.out.size))
                clear hnm
                generalize nm T m = a1 at *
                generalize vl T m = a2 at *
                go_wp2
                go_ret2
                exact lnPost_bad L.out BZ.out
              · rw [decide_eq_false hnm] at g2
                have NX : Hid (∀ i, i < m + 1 → nm T i ≠ a) := fun i hi => by
                  rcases Nat.lt_succ_iff_lt_or_eq.1 hi with q | q
                  · exact P1.out i q
                  · rw [q]; exact hnm
                clear hnm
                generalize nm T m = a1 at *
                generalize vl T m = a2 at *
                go_wp2
                go_roundw
                case rel => exact ⟨m + 1, by omega, by go_num, NX.out, BY.out⟩
                case measure => simp [intOf]; omega
            · obtain rfl : m = j := by omega
              have TN : Hid (txF [] T = txF (rvN T (m + 1)) (T.drop (m + 1))) := by
                show _ = _
                rw [TG.out, if_neg (fun h => rvN_not hj P1.out (List.contains_iff_mem.1 h)), RVJ.out]
              go_wp2
              go_roundw
              case rel => exact ⟨m + 1, by omega, by go_num, TN.out, BI.out⟩
              case measure => simp [intOf]; omega
      · obtain rfl : j = T.length := by omega
        have T0 : Hid (txF [] T = 0) := by
          have := Q1.out
          rw [List.drop_length] at this
          exact this
        have LL := Lib.hid (LG.out T0.out)
        have ba : Below wr.heap.size wr (wr.alloc (.cells #[.int .i64 0] 3)) := (Below.refl _ _).alloc (Nat.le_refl _) _
        have IC := Lib.hid (inc_all (w0 := wr) (q := wr.heap.size) (tv := .slice ta T.length tc) (T := T) (fun W hW => HM.out W (Q2.out.trans (hW.mono Q2.out.size))) (fun m hm => (HX.out m hm).2) hl' (txF_nod T0.out).1 (un T [] + 1) [] 0 s (wr.alloc (.cells #[.int .i64 0] 3)) (.slice none 0 0) 0 ba (Nat.zero_le _) (World.ownsRow_nil _ _ _ _) (blk_new wr #[.int .i64 0] 3) (by omega) HS.out (Nat.lt_succ_self _) (by have := un_le T []; simp; omega) (fun x hx => absurd hx List.not_mem_nil))
        have BB := Lib.hid ba
        clear ba Q1
        go_wp2_with fail
        refine IC.out.mono ?_
        rintro e w3 ⟨v3, n3, rfl, g3, m3, f3, h3⟩
        have B3 : Hid (Below w.heap.size w w3) := (Q2.out.trans (BB.out.mono Q2.out.size)).grown g3 (Nat.le_trans Q2.out.size BB.out.size) (fun k e => by cases e; exact Q2.out.size)
        have F3 := Lib.hid f3; have H3 := Lib.hid h3
        clear g3 m3 f3 h3 IC
        by_cases hA : (rdS T [] 0 s).1 = 0
        · obtain ⟨i1, i2, i3, i4, i5⟩ := H3.out hA
          have L2 : Hid (linesR s T = ((rdS T [] 0 s).2.1, 0)) := by show _ = _; rw [LL.out, if_neg (fun e => e hA)]
          have SI := Lib.hid (SIn.own i3 (by omega) (fun x hx => by have := i5 x hx; omega))
          have I5 := Lib.hid i5
          have I4 : Hid ((rdS T [] 0 s).2.1.length ≤ 201) := by show _ ≤ _; omega
          rw [hA]
          clear i1 i3 i5
          go_wp2
          go_ret2
          exact ⟨B3.out, v3, by rw [L2.out]; rfl, by rw [L2.out]; exact SI.out, by rw [L2.out]; exact I5.out, by rw [L2.out]; exact I4.out⟩
        · have L2 : Hid (linesR s T = ([], (rdS T [] 0 s).1)) := by show _ = _; rw [LL.out, if_pos hA]
          have e3 := F3.out hA
          subst e3
          go_wp2
          go_ret2
          exact lnPost_bad L2.out B3.out
end Go.Proofs.YtfgcbdjkimkgpaaGreatDoor
