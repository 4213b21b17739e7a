/-
  The law LineParts holds of every two strings: the walk. No condition.
-/
import Derived.Test.YtnfjcclblggbiaaDoorLWd
import Derived.Test.YtnfjcclblggbiaaDoorLEq
import Derived.Test.YtnfjcclblggbiaaDoorLPp
import Derived.Test.YtnfjcclblggbiaaDoorLGd
import Derived.OneCell
import Derived.Lib.AppendZeros
namespace Go.Proofs.YtnfjcclblggbiaaDoor
open Go.ChangeShapes Go.WideShapes Go.ChangeAt Go.RowKit

theorem cat_list (S T : ByteArray) : (S ++ T).data.toList = S.data.toList ++ T.data.toList := by simp
theorem count_call (S : ByteArray) (w : World) : Calls Tryd.prog 20 #[.string S, .string (ByteArray.mk #[10])] w fun e w' => e = .returned (.int .i64 ((S.data.toList.count 10 : Nat) : Int)) ∧ w' = w := Tryd.strings_Count_one S 10 w
theorem own_block {w : World} {base : Nat} {ty : TypeId} {size : Nat} {v : Value} {n : Nat} {xs : List Value} (h : w.ownsRow base ty size v n xs) (h0 : n ≠ 0) : ∃ g cap, v = .slice (some ⟨g, 0, none⟩) n cap ∧ base ≤ g ∧ g < w.heap.size ∧ ∀ j, w.frozen? ⟨g, j, none⟩ = false := by
  rcases h.2 with ⟨_, e⟩ | ⟨g, cap, cur, hv, hb, hg, _⟩
  · exact absurd e h0
  · subst hv
    refine ⟨g, cap, rfl, hb, ?_, fun j => h.frozenAt j⟩
    rcases Nat.lt_or_ge g w.heap.size with h' | h'
    · exact h'
    · simp [Array.getElem?_eq_none h'] at hg

/-- nothing is appended -/
theorem app_noneL {w : World} {base n : Nat} {v : Value} {xs : List Value} (ty : TypeId) (hown : w.ownsRow base 34 2 v n xs) (a : Option Addr) (c : Nat) :
    (Builtin.append_ #[22, 22] ty #[v, .slice a 0 c]).run Tryd.prog w = .ok v w := by
  obtain ⟨i0, hi, hz0, hz1, hz2⟩ := info_parts infoLn
  obtain ⟨b, cap, rfl, hn⟩ : ∃ b cap, v = .slice b n cap ∧ n ≤ cap := by
    rcases hown.2 with ⟨rfl, rfl⟩ | ⟨g, cap, cur, rfl, _, _, hn, _⟩
    · exact ⟨none, 0, rfl, Nat.le_refl _⟩
    · exact ⟨_, cap, rfl, hn⟩
  cases a with
  | none => cases b <;> simp [Builtin.append_, run_underlying Tryd.underlying22, sizeOf, typeInfo, hi, Builtin.lenOf, hn, Builtin.firstCells, storeCells]
  | some x =>
    have hf := run_firstCells_some (P := Tryd.prog) w i0.size 0 x 0 c [] (by simp) (by simp)
    cases b <;> simp [Builtin.append_, run_underlying Tryd.underlying22, sizeOf, typeInfo, hi, Builtin.lenOf, hn, hf, storeCells]
theorem LIn.grown {w w' : World} {v : Value} {z : List Ln} {row : Option Nat} (h : LIn w v z) (hg : w.grownBy w' row) (hne : ∀ b off c m, v = .slice (some ⟨b, off, none⟩) m c → some b ≠ row) : LIn w' v z := by
  obtain ⟨a, c, rfl, h2, h3, h4, h5⟩ := h
  refine ⟨a, c, rfl, h2, h3, h4, ?_⟩
  rcases h5 with h5 | ⟨b, off, rfl, h6, h7⟩
  · exact .inl h5
  · have hb := hne b off _ _ rfl
    exact .inr ⟨b, off, rfl, Nat.lt_of_lt_of_le h6 hg.size, fun j x hj => ⟨hg.cell (h7 j x hj).1 hb, hg.cell (h7 j x hj).2 hb⟩⟩
theorem joinR_len (s : Str) : (joinR s).1.length ≤ 20000 := by
  unfold joinR
  split
  · simp
  · split
    · have h1 := linesAt_length 0 (phys s)
      have h2 := phys_count s
      show (linesAt 0 (phys s)).length ≤ 20000
      omega
    · simp
theorem shift_take (n k : Nat) (z : List Ln) (hk : k < z.length) : shift n (z.take (k + 1)) ++ z.drop (k + 1) = (shift n (z.take k) ++ z.drop k).set k ((z.getD k (0, [])).1 + (n : Int), (z.getD k (0, [])).2) := by
  have e : z.getD k (0, []) = z[k] := by rw [List.getD, List.getElem?_eq_getElem hk]; rfl
  have hl : (shift n (z.take k)).length = k := by unfold shift; rw [List.length_map, List.length_take]; omega
  rw [e, List.set_append_right _ _ (by omega), hl, Nat.sub_self, List.drop_eq_getElem_cons hk, List.set_cons_zero, List.take_succ_eq_append_getElem hk]
  unfold shift
  rw [List.map_append, List.append_assoc]
  rfl
/-- one line's number turned -/
theorem LIn.put {w : World} {g n cap : Nat} {z : List Ln} (h : LIn w (.slice (some ⟨g, 0, none⟩) n cap) z) {k : Nat} (hk : k < z.length) (u : Int) : LIn (w.setCell ⟨g, k * 2, none⟩ (.int .i64 u)) (.slice (some ⟨g, 0, none⟩) n cap) (z.set k (u, (z.getD k (0, [])).2)) := by
  obtain ⟨a, c, hv, h2, h3, h4, h5⟩ := h
  cases hv
  rcases h5 with rfl | ⟨b, off, e, h6, h7⟩
  · simp at hk
  · cases e
    refine ⟨_, _, by rw [List.length_set], by rw [List.length_set]; exact h2, h3, by rw [List.length_set]; exact h4, .inr ⟨g, 0, rfl, by simpa using h6, fun j x hj => ?_⟩⟩
    have hold : w.cell? ⟨g, k * 2, none⟩ = some (.int .i64 (z.getD k (0, [])).1) := by
      have := (h7 k (z.getD k (0, [])) (by rw [List.getD, List.getElem?_eq_getElem hk]; rfl)).1
      rw [Nat.zero_add] at this; exact this
    rw [Nat.zero_add]
    by_cases e : j = k
    · subst e
      rw [List.getElem?_set_self hk] at hj
      cases hj
      refine ⟨World.cell?_setCell_same _ _ _ hold, ?_⟩
      rw [World.cell?_setCell_other _ _ _ _ (by simp)]
      have := (h7 j (z.getD j (0, [])) (by rw [List.getD, List.getElem?_eq_getElem hk]; rfl)).2
      rw [Nat.zero_add] at this; exact this
    · rw [List.getElem?_set_ne (Ne.symm e)] at hj
      have := h7 j x hj
      rw [Nat.zero_add] at this
      rw [World.cell?_setCell_other _ _ _ _ (by simp <;> omega), World.cell?_setCell_other _ _ _ _ (by simp <;> omega)]
      exact this
theorem LIn.other {w : World} {v : Value} {z : List Ln} (h : LIn w v z) {g i : Nat} (u : Value) (hne : ∀ b off, v = .slice (some ⟨b, off, none⟩) z.length (match v with | .slice _ _ c => c | _ => 0) → b ≠ g) : LIn (w.setCell ⟨g, i, none⟩ u) v z := by
  obtain ⟨a, c, rfl, h2, h3, h4, h5⟩ := h
  refine ⟨a, c, rfl, h2, h3, h4, ?_⟩
  rcases h5 with h5 | ⟨b, off, rfl, h6, h7⟩
  · exact .inl h5
  · have hb := hne b off rfl
    refine .inr ⟨b, off, rfl, by simpa using h6, fun j x hj => ?_⟩
    rw [World.cell?_setCell_other _ _ _ _ (fun e => hb (by cases e; rfl)), World.cell?_setCell_other _ _ _ _ (fun e => hb (by cases e; rfl))]
    exact h7 j x hj

set_option maxHeartbeats 4000000 in
set_option maxRecDepth 100000 in
theorem walkParts (S T : ByteArray) (w : World) (hs : S.size ≤ 140737488355328) (ht : T.size ≤ 140737488355328) (hm : MX w) :
    Calls Tryd.prog 5 #[.string S, .string T] w fun e w' => e = .returned (.bool true) ∧ Below w.heap.size w w' := by
  have HL := Lib.hid (lines_true w hm)
  have HM : Hid (MX w) := hm
  have JU : Hid (∀ w, MX w → Calls Tryd.prog 7 #[.string (S ++ (ByteArray.mk #[46, 10]))] w (JPost (S.data.toList ++ [46, 10]) w)) := fun w hm => by
    have := join_any (S ++ (ByteArray.mk #[46, 10])) w (by rw [ByteArray.size_append]; have : (ByteArray.mk #[46, 10]).size = 2 := rfl; omega) hm
    rw [cat_list] at this
    exact this
  have JT : Hid (∀ w, MX w → Calls Tryd.prog 7 #[.string T] w (JPost T.data.toList w)) := fun w hm => join_any T w (by omega) hm
  have JC : Hid (∀ w, MX w → Calls Tryd.prog 7 #[.string (S ++ (ByteArray.mk #[46, 10]) ++ T)] w (JPost (S.data.toList ++ [46, 10] ++ T.data.toList) w)) := fun w hm => by
    have := join_any (S ++ (ByteArray.mk #[46, 10]) ++ T) w (by rw [ByteArray.size_append, ByteArray.size_append]; have : (ByteArray.mk #[46, 10]).size = 2 := rfl; omega) hm
    rw [cat_list, cat_list] at this
    exact this
  have CN : Hid (∀ w, Calls Tryd.prog 20 #[.string (S ++ (ByteArray.mk #[46, 10])), .string (ByteArray.mk #[10])] w fun e w' => e = .returned (.int .i64 (((S.data.toList ++ [46, 10]).count 10 : Nat) : Int)) ∧ w' = w) := fun w => by
    have := count_call (S ++ (ByteArray.mk #[46, 10])) w
    rw [cat_list] at this
    exact this
  have PJ := Lib.hid (@parts_join S.data.toList T.data.toList)
  have NB : Hid ((joinR (S.data.toList ++ [46, 10])).2 = 0 → (S.data.toList ++ [46, 10]).count 10 ≤ 20000) := fun h => Nat.le_trans List.count_le_length (joinR_ok h).2
  have LA := Lib.hid (joinR_len (S.data.toList ++ [46, 10]))
  have LB := Lib.hid (joinR_len T.data.toList)
  have LC := Lib.hid (joinR_len (S.data.toList ++ [46, 10] ++ T.data.toList))
  have RB : Hid (∀ x ∈ (joinR T.data.toList).1, 0 ≤ x.1 ∧ x.1 ≤ 20000) := joinR_at T.data.toList
  unfold JPost at JU JT JC
  have SU : Hid ((S ++ (ByteArray.mk #[46, 10])).size ≤ 140737488355330) := Lib.hid (by rw [ByteArray.size_append]; have : (ByteArray.mk #[46, 10]).size = 2 := rfl; omega)
  generalize (S.data.toList ++ [46, 10]).count 10 = n at *
  generalize joinR (S.data.toList ++ [46, 10] ++ T.data.toList) = RC at *
  generalize joinR (S.data.toList ++ [46, 10]) = RA at *
  generalize joinR T.data.toList = RT at *
  obtain ⟨A, e1⟩ := RA
  obtain ⟨Z, e2⟩ := RT
  obtain ⟨C, e3⟩ := RC
  dsimp only at *
  clear hm
  go_enter Tryd.func5, Tryd.ntmps5
  go_wp2_with fail
  refine HL.out.mono ?_
  rintro e w1 ⟨rfl, q⟩
  have B1 := Lib.hid q; have M1 := Lib.hid (HM.out.later q); clear q
  go_wp2_with fail
  generalize S ++ (ByteArray.mk #[46, 10]) = U at *
  have hU := SU.out
  clear hs
  refine (JU.out w1 M1.out).mono ?_
  rintro e w2 ⟨va, rfl, oa, q⟩
  have OA := Lib.hid oa; have C2 := Lib.hid q; have M2 := Lib.hid (M1.out.later q); clear oa q
  go_wp2_with fail
  refine (JT.out w2 M2.out).mono ?_
  rintro e w3 ⟨vb, rfl, ob, q⟩
  have OB := Lib.hid ob; have C3 := Lib.hid q; have M3 := Lib.hid (M2.out.later q); clear ob q
  go_wp2_with fail
  refine (JC.out w3 M3.out).mono ?_
  rintro e w4 ⟨vc, rfl, oc, q⟩
  have OC := Lib.hid oc; have C4 := Lib.hid q; clear oc q
  have B4 : Hid (Below w.heap.size w w4) := ((B1.out.trans (C2.out.mono B1.out.size)).trans (C3.out.mono (Nat.le_trans B1.out.size C2.out.size))).trans (C4.out.mono (Nat.le_trans B1.out.size (Nat.le_trans C2.out.size C3.out.size)))
  have GO : Hid (∀ t, Calls Tryd.prog 21 #[.slice (some ⟨w4.heap.size, 0, none⟩) 3 3] (w4.alloc (.cells #[.int .i64 e1, .int .i64 e2, .int .i64 e3] t)) fun e w' => e = .returned (.bool (decide (e1 = 0 ∧ e2 = 0 ∧ e3 = 0))) ∧ w' = w4.alloc (.cells #[.int .i64 e1, .int .i64 e2, .int .i64 e3] t)) := fun t => good_any w4.heap.size e1 e2 e3 _ (by simp) (by simp) (by simp)
  go_wp2_with fail
  refine (GO.out _).mono ?_
  rintro e w' ⟨rfl, rfl⟩
  by_cases hg : e1 = 0 ∧ e2 = 0 ∧ e3 = 0
  · rw [decide_eq_true hg]
    obtain ⟨rfl, rfl, rfl⟩ := hg
    have hn := NB.out rfl
    have HP := Lib.hid (PJ.out rfl rfl rfl)
    have X5 : Hid (∀ o, Below w4.heap.size w4 (w4.alloc o)) := fun o => (Below.refl _ w4).alloc (Nat.le_refl _) o
    generalize hw5 : w4.alloc (.cells #[.int .i64 0, .int .i64 0, .int .i64 0] 23) = w5
    have Y5 : Below w4.heap.size w4 w5 := hw5 ▸ X5.out _
    have B5 := Lib.hid (B4.out.trans (Y5.mono B4.out.size))
    have D3 := Lib.hid (C4.out.trans (Y5.mono C4.out.size))
    have D2 := Lib.hid (C3.out.trans (D3.out.mono C3.out.size))
    have O5a := Lib.hid (own_later OA.out D2.out)
    have O5b := Lib.hid (own_later OB.out D3.out)
    have O5c := Lib.hid (own_later OC.out Y5)
    have S13 : Hid (w1.heap.size ≤ w2.heap.size ∧ w2.heap.size ≤ w3.heap.size ∧ w3.heap.size ≤ w5.heap.size ∧ w.heap.size ≤ w1.heap.size) := ⟨C2.out.size, C3.out.size, D3.out.size, B1.out.size⟩
    have LTa : Hid (∀ k, va.ownBlock = some k → k < w2.heap.size) := fun k hk => (OA.out.lt k hk).2
    have LTc : Hid (∀ k, vc.ownBlock = some k → w3.heap.size ≤ k) := fun k hk => (OC.out.lt k hk).1
    have LTb : Hid (∀ k, vb.ownBlock = some k → w2.heap.size ≤ k ∧ k < w3.heap.size) := fun k hk => OB.out.lt k hk
    clear hw5 Y5 X5 D2 D3 B4 C4 GO PJ NB
    obtain ⟨i0, hi, hz0, hz1, hz2⟩ := info_parts infoLn
    have HI := Lib.hid hi; clear hi
    by_cases hZ : Z = []
    · subst hZ
      have IB := LIn.own O5b.out (by simp)
      have IC := Lib.hid (LIn.own O5c.out (by have := LC.out; omega))
      have IA := Lib.hid (LIn.own O5a.out (by have := LA.out; omega))
      rcases IB.open with ⟨_, a, cap, rfl⟩ | ⟨hp, _⟩
      · clear IB
        have AN : Hid (∀ ty, (Builtin.append_ #[22, 22] ty #[va, .slice a 0 cap]).run Tryd.prog w5 = .ok va w5) := fun ty => app_noneL ty O5a.out a cap
        have EQ := Lib.hid (leq_of IC.out IA.out)
        rw [decide_eq_true (show C = A by rw [HP.out]; simp [shift])] at EQ
        go_wp2_with fail
        refine (CN.out _).mono ?_
        rintro e w' ⟨rfl, rfl⟩
        go_wp2_with fail
        refine wp_loop_rounds 1 ?_
        rw [rounds_succ]
        go_wp2_with (at_builtin; refine Lib.wpList_append_run _ rfl _ _ 22 22 rfl _ _ rfl rfl _ _ (AN.out _) ?_)
        refine EQ.out.mono ?_
        rintro e w' ⟨rfl, k, q⟩
        have B6 : Hid (Below w.heap.size w w') := by rw [q]; exact below_drewN' B5.out k
        clear q
        go_wp2
        go_ret
        exact ⟨rfl, B6.out⟩
      · exact absurd hp (Nat.not_lt_zero _)
    · obtain ⟨g, cap, rfl, g1, g2, g3⟩ := own_block O5b.out (fun e => hZ (List.length_eq_zero_iff.1 e))
      have IB := Lib.hid (LIn.own O5b.out (by have := LB.out; omega))
      have IC := Lib.hid (LIn.own O5c.out (by have := LC.out; omega))
      have gw : g < w3.heap.size := (LTb.out g rfl).2
      have G2 : Hid (w2.heap.size ≤ g) := g1
      have G3 : Hid (w.heap.size ≤ g) := by have := S13.out; show _ ≤ _; omega
      have GA : Hid (va.ownBlock ≠ some g) := fun e => by have := LTa.out g e; have := G2.out; omega
      have GC : Hid (∀ b off c m, vc = .slice (some ⟨b, off, none⟩) m c → b ≠ g) := fun b off c m e h => by
        have := LTc.out b (by rw [e]; rfl)
        omega
      have F3 := Lib.hid g3; clear g3
      have hzl : Z.length ≤ 20000 := LB.out
      have AT : Hid (∀ k, k < Z.length → 0 ≤ (Z.getD k (0, [])).1 ∧ (Z.getD k (0, [])).1 ≤ 20000) := fun k hk => RB.out _ (by rw [List.getD, List.getElem?_eq_getElem hk]; exact List.getElem_mem hk)
      clear hZ g1 gw
      go_wp2_with fail
      refine (CN.out _).mono ?_
      rintro e w' ⟨rfl, rfl⟩
      go_wp2_with fail
      go_loopw [44] (fun i wr => ∃ k : Nat, k ≤ Z.length ∧ i = .int .i64 (k : Int) ∧ LIn wr (.slice (some ⟨g, 0, none⟩) Z.length cap) (shift n (Z.take k) ++ Z.drop k) ∧ (∀ j, wr.frozen? ⟨g, j, none⟩ = false) ∧ wr.ownsRow w1.heap.size 34 2 va A.length (lnCells A) ∧ LIn wr vc C ∧ Below w.heap.size w wr ∧ w1.heap.size ≤ wr.heap.size ∧ g < wr.heap.size) (fun i _ => Z.length - (intOf i).toNat)
      case atStart => exact ⟨0, Nat.zero_le _, rfl, by simpa [shift] using IB.out, F3.out, O5a.out, IC.out, B5.out, by have := S13.out; omega, g2⟩
      case round =>
        obtain ⟨k, hk, rfl, q1, q2, q3, q4, q5, q6, q7⟩ := hrel
        have Q1 := Lib.hid q1; have Q2 := Lib.hid q2; have Q3 := Lib.hid q3; have Q4 := Lib.hid q4; have Q5 := Lib.hid q5; have Q6 := Lib.hid q6; have Q7 := Lib.hid q7
        clear q1 q2 q3 q4 q5 q6 q7
        by_cases hk2 : k < Z.length
        · have SH := Lib.hid (shift_take n k Z hk2)
          have hl : (shift n (Z.take k) ++ Z.drop k).length = Z.length := by simp [shift]; omega
          have ek : (shift n (Z.take k) ++ Z.drop k)[k]? = some (Z.getD k (0, [])) := by
            rw [List.getElem?_append_right (by simp [shift]; omega)]
            have : (shift n (Z.take k)).length = k := by simp [shift]; omega
            rw [this, Nat.sub_self, List.getElem?_drop, Nat.add_zero, List.getD, List.getElem?_eq_getElem hk2]; rfl
          have eg : (shift n (Z.take k) ++ Z.drop k).getD k (0, []) = Z.getD k (0, []) := by rw [List.getD, ek]; rfl
          have hat := AT.out k hk2
          have c1 : wr.cell? ⟨g, k * 2, none⟩ = some (.int .i64 (Z.getD k (0, [])).1) := by
            rcases Q1.out.open with ⟨e, _⟩ | ⟨_, b, off, c, e, _, _, hc⟩
            · rw [e] at hl; simp at hl; omega
            · simp only [Value.slice.injEq, Option.some.injEq, Addr.mk.injEq] at e
              obtain ⟨⟨rfl, rfl, _⟩, _, rfl⟩ := e
              have := (hc k _ ek).1
              rw [Nat.zero_add] at this; exact this
          have f1 := Q2.out (k * 2)
          have PT : Hid (∀ u : Int, LIn (wr.setCell ⟨g, k * 2, none⟩ (.int .i64 u)) (.slice (some ⟨g, 0, none⟩) Z.length cap) ((shift n (Z.take k) ++ Z.drop k).set k (u, (Z.getD k (0, [])).2))) := fun u => by
            have := Q1.out.put (k := k) (by rw [hl]; exact hk2) u
            rw [eg] at this
            exact this
          have PF : Hid (∀ (u : Value) (j : Nat), (wr.setCell ⟨g, k * 2, none⟩ u).frozen? ⟨g, j, none⟩ = false) := fun u j => by rw [World.frozen?_setCell]; exact Q2.out j
          have PA : Hid (∀ u : Value, (wr.setCell ⟨g, k * 2, none⟩ u).ownsRow w1.heap.size 34 2 va A.length (lnCells A)) := fun u => ownsRow_setCell_other Q3.out GA.out u
          have PC : Hid (∀ u : Value, LIn (wr.setCell ⟨g, k * 2, none⟩ u) vc C) := fun u => Q4.out.other u (fun b off e => GC.out b off _ _ e)
          have PB : Hid (∀ u : Value, Below w.heap.size w (wr.setCell ⟨g, k * 2, none⟩ u)) := fun u => Q5.out.setCell G3.out u
          have PS : Hid (∀ u : Value, w1.heap.size ≤ (wr.setCell ⟨g, k * 2, none⟩ u).heap.size ∧ g < (wr.setCell ⟨g, k * 2, none⟩ u).heap.size) := fun u => ⟨by simpa using Q6.out, by simpa using Q7.out⟩
          clear hl ek eg
          generalize (Z.getD k (0, [])).1 = at1 at *
          generalize (Z.getD k (0, [])).2 = tx at *
          go_wp2
          go_roundw
          case rel =>
            refine ⟨k + 1, by omega, by go_num, ?_, PF.out _, PA.out _, PC.out _, PB.out _, (PS.out _).1, (PS.out _).2⟩
            rw [SH.out]; exact PT.out _
          case measure => simp [intOf]; omega
        · obtain rfl : k = Z.length := by omega
          have ZL : Hid (shift n (Z.take Z.length) ++ Z.drop Z.length = shift n Z) := Lib.hid (by simp)
          rw [ZL.out] at Q1
          have SL : Hid ((shift n Z).length = Z.length) := Lib.hid (by simp [shift])
          have NW : Hid (∀ j u, (lnCells (shift n Z))[j]? = some u → wr.cell? ((⟨g, 0, none⟩ : Addr).add j) = some u) := fun j u hj => by
            rw [add_off]
            have hj' : j < (shift n Z).length * 2 := by
              rcases Nat.lt_or_ge j ((shift n Z).length * 2) with h | h
              · exact h
              · rw [List.getElem?_eq_none (by rw [lnCells_length]; exact h)] at hj; cases hj
            obtain ⟨x, hx⟩ : ∃ x, (shift n Z)[j / 2]? = some x := ⟨_, List.getElem?_eq_getElem (by omega)⟩
            rcases Q1.out.open with ⟨e, _⟩ | ⟨_, b, off, c, e, _, _, hc⟩
            · rw [e] at hj'; simp at hj'
            · simp only [Value.slice.injEq, Option.some.injEq, Addr.mk.injEq] at e
              obtain ⟨⟨rfl, rfl, _⟩, _, rfl⟩ := e
              obtain ⟨q1, q2⟩ := hc _ _ hx
              obtain ⟨r1, r2⟩ := lnCells_at _ _ _ hx
              rw [Nat.zero_add] at q1 q2
              rcases (by omega : j = j / 2 * 2 ∨ j = j / 2 * 2 + 1) with h | h
              · rw [h, r1] at hj; cases hj; rw [h]; exact q1
              · rw [h, r2] at hj; cases hj; rw [h]; exact q2
          have OC1 : Hid (∀ u ∈ lnCells (shift n Z), u.oneCell' = true) := fun u hu => by
            unfold lnCells at hu
            rw [List.mem_flatMap] at hu
            obtain ⟨x, _, hx⟩ := hu
            unfold encLn at hx
            simp at hx
            rcases hx with rfl | rfl <;> rfl
          have la := LA.out
          go_wp2_with (at_builtin; go_must (refine wpList_append_own _ rfl (.tmp 58) (.tmp 59) 22 rfl w1.heap.size 34 i0 (.agg #[.int .i64 0, .string ByteArray.empty]) 2 24 Tryd.underlying22 HI.out hz0 hz1 hz2 rfl (by decide) _ _ _ rfl Q3.out ⟨g, 0, none⟩ Z.length cap (lnCells (shift n Z)) rfl (by rw [lnCells_length, SL.out]) NW.out OC1.out (by unfold maxLen; omega) (by omega) Q6.out ?_; intro v4 w6 q1 q2 q3; have O6 := Lib.hid q1; have G6 := Lib.hid q2; clear q1 q2 q3))
          have I6 : Hid (LIn w6 v4 (A ++ shift n Z)) := LIn.own (by rw [List.length_append, SL.out, lnCells_append]; exact O6.out) (by rw [List.length_append, SL.out]; omega)
          have C6 : Hid (LIn w6 vc C) := Q4.out.grown G6.out (fun b off c m e h => by
            have h1 := LTc.out b (by rw [e]; rfl)
            have h2 := LTa.out b h.symm
            have := S13.out
            omega)
          have EQ := Lib.hid (leq_of C6.out I6.out)
          rw [decide_eq_true (show C = A ++ shift n Z from HP.out)] at EQ
          have B6 : Hid (Below w.heap.size w w6) := Q5.out.grown G6.out Q5.out.size (fun k hk => by have h1 := (Q3.out.lt k hk).1; have := S13.out; omega)
          refine EQ.out.mono ?_
          rintro e w' ⟨rfl, k, q⟩
          have B7 : Hid (Below w.heap.size w w') := by rw [q]; exact below_drewN' B6.out k
          clear q
          go_wp2
          go_ret
          exact ⟨rfl, B7.out⟩
  · rw [decide_eq_false hg]
    clear hg
    have B5 : Hid (∀ o, Below w.heap.size w (w4.alloc o)) := fun o => B4.out.alloc B4.out.size o
    go_wp2
    go_ret
    exact ⟨rfl, B5.out _⟩
end Go.Proofs.YtnfjcclblggbiaaDoor
