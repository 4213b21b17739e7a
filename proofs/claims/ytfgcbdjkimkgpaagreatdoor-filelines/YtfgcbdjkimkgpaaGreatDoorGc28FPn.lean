/-
  Package file's Print and Check; what Parse answers is of bounded size. Condition: FB (names, values and rows of at most 2^24 bytes).
  The law FileBack: a printed file is parsed as it was; what is parsed, printed, is parsed so again. Condition: FB (names, values and rows of at most 2^24 bytes), lines of at most 2^24 bytes.
-/
import Derived.Test.YtfgcbdjkimkgpaaGreatDoorGc27FLs
import Derived.Test.YtfgcbdjkimkgpaaGreatDoorGc22FAd
namespace Go.Proofs.YtfgcbdjkimkgpaaGreatDoor
set_option maxRecDepth 100000
set_option linter.unusedVariables false
open Go.ChangeShapes Go.WideShapes Go.ChangeAt Go.RowKit

theorem pairR_len {s : Str} {p : Mc} (h : pairR s = some p) : p.1.length ≤ s.length ∧ p.2.length ≤ s.length := by
  cases s with
  | nil => cases h
  | cons c r =>
    by_cases hc : c = 46
    · subst hc
      rw [pairR_cons] at h
      cases hq : cutB 46 r with
      | none => rw [hq] at h; cases h
      | some q =>
        rw [hq] at h
        simp only [] at h
        split at h
        · cases h
          obtain ⟨h1, _, _, _, _, h6⟩ := cutB_some hq
          have e : r.length = q.1.length + (q.2.length + 1) := by conv => lhs; rw [h6]
                                                                  rw [List.length_append, List.length_cons]
          simp only [List.length_cons]; omega
        · cases h
    · rw [show pairR (c :: r) = none by simp [pairR, hc]] at h; cases h
theorem infR_len {r : Rl} {p : Mc} (h : infR r = some p) (hr : chkR r = 0) : p.1.length ≤ 40 ∧ p.2.length ≤ 40 := by
  unfold infR at h
  split at h
  · rename_i hc
    obtain ⟨_, _, _, hg, _⟩ := chk_ok hr
    have hm : r.1.getD 0 [] ∈ r.1 := getD_mem (by omega)
    have h1 := (good_len (List.all_eq_true.1 hg _ hm)).2
    have h2 := pairR_len h
    omega
  · cases h
theorem bulk_short {l : List Str} (h : ∀ y ∈ l, y.length ≤ 40) : bulk l ≤ 41 * l.length := by
  induction l with
  | nil => simp [bulk]
  | cons x r ih =>
    have h1 := h x (List.mem_cons_self ..)
    have h2 := ih fun y hy => h y (List.mem_cons_of_mem _ hy)
    rw [bulk_cons, List.length_cons]
    omega
/-- what Parse keeps of what it has added -/
structure IV (i : Nat) (st : St) : Prop where
  p1 : st.1.length ≤ 20
  p2 : ∀ y ∈ st.1, y.length ≤ 40
  i1 : st.2.1.length ≤ i
  i2 : ∀ m ∈ st.2.1, m.1.length ≤ 40 ∧ m.2.length ≤ 40
  r1 : st.2.2.length ≤ 100
  r2 : ∀ r ∈ st.2.2, chkR r = 0
theorem IV.mono {i j : Nat} {st : St} (h : IV i st) (hij : i ≤ j) : IV j st := ⟨h.p1, h.p2, Nat.le_trans h.i1 hij, h.i2, h.r1, h.r2⟩
theorem good_short {l : List Str} (h : l.all good = true) : ∀ y ∈ l, y.length ≤ 40 := fun y hy => (good_len (List.all_eq_true.1 h _ hy)).2
theorem putL_iv {i : Nat} {st : St} {r : Rl} (h : IV i st) (hr : chkR r = 0) (h0 : (putL st r).1 = 0) : IV (i + 1) (putL st r).2 := by
  unfold putL at *
  by_cases e3 : r.1.contains phonyW = true
  · rw [if_pos e3] at h0 ⊢
    by_cases e4 : 1 < r.1.length
    · rw [if_pos e4] at h0; cases h0
    rw [if_neg e4] at h0 ⊢
    by_cases e5 : 20 < (phN st.1 r.2).length
    · rw [if_pos e5] at h0; cases h0
    rw [if_neg e5]
    refine ⟨by show (phN st.1 r.2).length ≤ 20; omega, fun y hy => ?_, by have := h.i1; show st.2.1.length ≤ _; omega, h.i2, h.r1, h.r2⟩
    rcases phN_mem _ _ hy with hy | hy
    · exact h.p2 y hy
    · obtain ⟨_, _, _, _, hg⟩ := chk_ok hr
      exact good_short hg y hy
  · rw [if_neg e3] at h0 ⊢
    cases hi : infR r with
    | some p =>
      refine ⟨h.p1, h.p2, Nat.le_trans (addU_lenI _ _) (by have := h.i1; omega), fun m hm => ?_, h.r1, h.r2⟩
      have hm : m ∈ addU st.2.1 p := hm
      unfold addU at hm
      split at hm
      · exact h.i2 m hm
      · rcases List.mem_append.1 hm with hm | hm
        · exact h.i2 m hm
        · rw [List.mem_singleton.1 hm]; exact infR_len hi hr
    | none =>
      rw [hi] at h0
      simp only [] at h0 ⊢
      by_cases e5 : 100 < st.2.2.length + 1
      · rw [if_pos e5] at h0; cases h0
      rw [if_neg e5]
      refine ⟨h.p1, h.p2, by have := h.i1; show st.2.1.length ≤ _; omega, h.i2, by show (st.2.2 ++ [r]).length ≤ 100; rw [List.length_append, List.length_singleton]; omega, fun q hq => ?_⟩
      rcases List.mem_append.1 hq with hq | hq
      · exact h.r2 q hq
      · rw [List.mem_singleton.1 hq]; exact hr
theorem addL_iv {z : List Mc} {i : Nat} {st : St} {s : Str} (h : IV i st) (h0 : (addL z st s).1 = 0) : IV (i + 1) (addL z st s).2 := by
  unfold addL at *
  by_cases e1 : (expR z s).2 ≠ 0
  · rw [if_pos e1] at h0; exact absurd h0 e1
  rw [if_neg e1] at h0 ⊢
  by_cases e2 : (parseR (expR z s).1).2 ≠ 0
  · rw [if_pos e2] at h0; exact absurd h0 e2
  rw [if_neg e2] at h0 ⊢
  exact putL_iv h (parse_fine (by simpa using e2)) h0
theorem goL_iv {z : List Mc} : ∀ {l : List Str} {i j : Nat} {st : St}, IV i st → (goL z j st l).2.2 = 0 → IV (i + l.length) (goL z j st l).1
  | [], i, j, st, h, _ => by simpa [goL] using h
  | s :: r, i, j, st, h, h0 => by
    cases hd : defR s with
    | some m =>
      rw [goL_skip (by rw [hd]; rfl)] at h0 ⊢
      exact (goL_iv h h0).mono (by rw [List.length_cons]; omega)
    | none =>
      by_cases hk : (addL z st s).1 = 0
      · rw [goL_step hd hk] at h0 ⊢
        exact (goL_iv (addL_iv h hk) h0).mono (by rw [List.length_cons]; omega)
      · rw [goL_bad hd hk] at h0
        exact absurd h0 hk
theorem FB.nil : FB ([], [], [], []) := ⟨fun m hm => absurd hm List.not_mem_nil, by simp [bulk], fun m hm => absurd hm List.not_mem_nil, fun m hm => absurd hm List.not_mem_nil, by decide⟩
theorem parseF_FB {l : List Str} (hx : ∀ x ∈ l, x.length ≤ 16777216) : FB (parseF l).1 := by
  unfold parseF
  by_cases h1 : 200 < l.length
  · rw [if_pos h1]; exact FB.nil
  rw [if_neg h1]
  by_cases h2 : flatE (defsR l) ≠ 0
  · rw [if_pos h2]; exact FB.nil
  rw [if_neg h2]
  by_cases h3 : (goL (defsR l) 0 ([], [], []) l).2.2 ≠ 0
  · rw [if_pos h3]; exact FB.nil
  rw [if_neg h3]
  have iv := goL_iv (z := defsR l) (l := l) (i := 0) (j := 0) (st := ([], [], [])) ⟨by decide, fun y hy => absurd hy List.not_mem_nil, by decide, fun y hy => absurd hy List.not_mem_nil, by decide, fun y hy => absurd hy List.not_mem_nil⟩ (by simpa using h3)
  generalize (goL (defsR l) 0 ([], [], []) l).1 = st at *
  have dl := defs_len l
  refine ⟨fun m hm => ?_, ?_, fun m hm => ?_, fun r hr => ?_, ?_⟩
  · obtain ⟨s, hs, he⟩ := List.mem_filterMap.1 hm
    have h4 := defR_len he
    have h5 := hx s hs
    omega
  · have h4 := bulk_short iv.p2
    have h5 := iv.p1
    show bulk st.1 ≤ _
    omega
  · have h4 := iv.i2 m hm
    omega
  · obtain ⟨q1, q2, _, q3, q4⟩ := chk_ok (iv.r2 r hr)
    have h4 := bulk_short (good_short q3)
    have h5 := bulk_short (good_short q4)
    omega
  · have h4 := iv.i1
    have h5 := iv.r1
    refine ⟨?_, ?_, ?_⟩
    · show (defsR l).length ≤ _; omega
    · show st.2.1.length ≤ _; omega
    · show st.2.2.length ≤ _; omega
theorem parseF_zero {l : List Str} (h : (parseF l).2.2 = 0) : (parseF l).2.1 = 0 := by
  unfold parseF at *
  split
  · rfl
  · rename_i h1
    rw [if_neg h1] at h
    split
    · rfl
    · rename_i h2
      rw [if_neg h2] at h
      split
      · rename_i h3
        rw [if_pos h3] at h
        exact absurd h h3
      · rfl
theorem parseF_err {l : List Str} (h : (parseF l).2.2 ≠ 0) : (parseF l).1 = ([], [], [], []) := by
  unfold parseF at *
  split
  · rfl
  · rename_i h1
    rw [if_neg h1] at h
    split
    · rfl
    · rename_i h2
      rw [if_neg h2] at h
      split
      · rfl
      · rename_i h3
        rw [if_neg h3] at h
        exact absurd rfl h
theorem parseF_num (l : List Str) : (parseF l).2.1 ≤ l.length := by
  unfold parseF
  split
  · exact Nat.zero_le _
  · split
    · exact Nat.zero_le _
    · split
      · rename_i h3
        rcases goL_zero (z := defsR l) (l := l) (i := 0) (st := ([], [], [])) with h | ⟨_, _, h⟩
        · exact absurd h.2 h3
        · show (goL (defsR l) 0 ([], [], []) l).2.1 ≤ _
          omega
      · exact Nat.zero_le _
theorem printF_no {F : Fil} (h : (parseF (lnsF F)).2.2 ≠ 0) : printF F = ([], (parseF (lnsF F)).2.2) := by unfold printF; rw [if_pos h]
theorem printF_yes {F : Fil} (h : (parseF (lnsF F)).2.2 = 0) (k : (parseF (lnsF F)).1 = F) : printF F = (lnsF F, 0) := by unfold printF; rw [if_neg (fun e => e h), if_pos k]
theorem printF_other {F : Fil} (h : (parseF (lnsF F)).2.2 = 0) (k : (parseF (lnsF F)).1 ≠ F) : printF F = ([], 3) := by unfold printF; rw [if_neg (fun e => e h), if_neg k]
theorem printF_ok {F : Fil} (h : (printF F).2 = 0) : (printF F).1 = lnsF F ∧ (parseF (lnsF F)).1 = F ∧ (parseF (lnsF F)).2.2 = 0 := by
  by_cases h1 : (parseF (lnsF F)).2.2 = 0
  · by_cases h2 : (parseF (lnsF F)).1 = F
    · rw [printF_yes h1 h2]; exact ⟨rfl, h2, h1⟩
    · rw [printF_other h1 h2] at h; cases h
  · rw [printF_no h1] at h; exact absurd h h1
theorem printF_bad {F : Fil} (h : (printF F).2 ≠ 0) : (printF F).1 = [] := by
  by_cases h1 : (parseF (lnsF F)).2.2 = 0
  · by_cases h2 : (parseF (lnsF F)).1 = F
    · rw [printF_yes h1 h2] at h; exact absurd rfl h
    · rw [printF_other h1 h2]
  · rw [printF_no h1]
theorem FIn.shapes {w : World} {vm vp vi vr : Value} {F : Fil} (h : FIn w vm vp vi vr F) : ∃ a1 c1 a2 c2 a3 c3 a4 c4, vm = .slice a1 F.1.length c1 ∧ vp = .slice a2 F.2.1.length c2 ∧ vi = .slice a3 F.2.2.1.length c3 ∧ vr = .slice a4 F.2.2.2.length c4 := by
  obtain ⟨⟨a1, c1, h1, _⟩, h2, ⟨a3, c3, h3, _⟩, ⟨a4, c4, h4, _⟩⟩ := h
  obtain ⟨a2, c2, h2⟩ := h2.shape
  exact ⟨a1, c1, a2, c2, a3, c3, a4, c4, h1, h2, h3, h4⟩
/-- what Print hands back -/
def PnPost (F : Fil) (w : World) (e : Ending) (w' : World) : Prop :=
  Below w.heap.size w w' ∧ ∃ v, e = .returned (.tuple #[v, .int .i64 (printF F).2]) ∧ SIn w' v (printF F).1
set_option maxHeartbeats 4000000 in
theorem print_file {w : World} {vm vp vi vr : Value} {F : Fil} (h : FIn w vm vp vi vr F) (hb : FB F) :
    Calls Tryz.prog 20 #[.agg #[vm, vp, vi, vr]] w (PnPost F w) := by
  have LS := Lib.hid (lns_small F hb)
  have P0 : Hid ((parseF (lnsF F)).2.2 ≠ 0 → printF F = ([], (parseF (lnsF F)).2.2)) := printF_no
  have P1 : Hid ((parseF (lnsF F)).2.2 = 0 → (parseF (lnsF F)).1 = F → printF F = (lnsF F, 0)) := printF_yes
  have P2 : Hid ((parseF (lnsF F)).2.2 = 0 → (parseF (lnsF F)).1 ≠ F → printF F = ([], 3)) := printF_other
  obtain ⟨a1, c1, a2, c2, a3, c3, a4, c4, rfl, rfl, rfl, rfl⟩ := h.shapes
  have ba : Below w.heap.size w (w.alloc (.cells #[.slice a1 F.1.length c1, .slice a2 F.2.1.length c2, .slice a3 F.2.2.1.length c3, .slice a4 F.2.2.2.length c4] 36)) := (Below.refl _ _).alloc (Nat.le_refl _) _
  have LO := Lib.hid (linesOf_any (h.later ba) hb)
  have HF : Hid (∀ W, Below w.heap.size w W → FIn W (.slice a1 F.1.length c1) (.slice a2 F.2.1.length c2) (.slice a3 F.2.2.1.length c3) (.slice a4 F.2.2.2.length c4) F) := fun W hW => h.later hW
  have S0 := Lib.hid (blk_new w #[.slice a1 F.1.length c1, .slice a2 F.2.1.length c2, .slice a3 F.2.2.1.length c3, .slice a4 F.2.2.2.length c4] 36)
  have BA := Lib.hid ba
  clear h hb ba
  generalize F.1.length = n1 at *
  generalize F.2.1.length = n2 at *
  generalize F.2.2.1.length = n3 at *
  generalize F.2.2.2.length = n4 at *
  unfold PnPost
  go_enter Tryz.func20, Tryz.ntmps20
  go_wp2_with fail
  refine LO.out.mono ?_
  rintro e w1 ⟨v1, rfl, hs, b1⟩
  obtain ⟨a9, c9, rfl⟩ := hs.shape
  have B1 : Hid (Below w.heap.size w w1) := BA.out.trans (b1.mono BA.out.size)
  have S1 := Lib.hid (S0.out.later b1)
  have H1 := Lib.hid hs
  have PA := Lib.hid (parse_file _ _ w1 hs LS.out)
  clear hs b1 LO S0
  generalize (lnsF F).length = nl at *
  go_wp2_with fail
  refine PA.out.mono ?_
  rintro e w2 ⟨b2, um, up, ui, ur, rfl, hf⟩
  have B2 : Hid (Below w.heap.size w w2) := B1.out.trans (b2.mono B1.out.size)
  have S2 := Lib.hid (S1.out.later b2)
  have H2 := Lib.hid (H1.out.later b2)
  obtain ⟨x1, y1, x2, y2, x3, y3, x4, y4, rfl, rfl, rfl, rfl⟩ := hf.shapes
  clear b2 PA S1 H1
  generalize (((parseF (lnsF F)).2.1 : Nat) : Int) = N at *
  generalize hR : (parseF (lnsF F)).1 = R at *
  have bb : Below w2.heap.size w2 (w2.alloc (.cells #[.slice x1 R.1.length y1, .slice x2 R.2.1.length y2, .slice x3 R.2.2.1.length y3, .slice x4 R.2.2.2.length y4] 36)) := (Below.refl _ _).alloc (Nat.le_refl _) _
  have B3 : Hid (Below w.heap.size w (w2.alloc (.cells #[.slice x1 R.1.length y1, .slice x2 R.2.1.length y2, .slice x3 R.2.2.1.length y3, .slice x4 R.2.2.2.length y4] 36))) := B2.out.trans (bb.mono B2.out.size)
  have H3 := Lib.hid (H2.out.later bb)
  have SM := Lib.hid (sameP (hf.later bb) (HF.out _ B3.out))
  have S3 := S2.out.later bb
  obtain ⟨k0, k1, k2, k3⟩ := show _ ∧ _ ∧ _ ∧ _ from ⟨S3.cell (i := 0) rfl, S3.cell (i := 1) rfl, S3.cell (i := 2) rfl, S3.cell (i := 3) rfl⟩
  clear hf bb S3 HF
  generalize R.1.length = m1 at *
  generalize R.2.1.length = m2 at *
  generalize R.2.2.1.length = m3 at *
  generalize R.2.2.2.length = m4 at *
  by_cases hE : (parseF (lnsF F)).2.2 = 0
  · rw [hE]
    have HE := Lib.hid hE
    clear hE
    go_wp2_with fail
    refine SM.out.mono ?_
    rintro e w4 ⟨rfl, b4⟩
    have B4 : Hid (Below w.heap.size w w4) := B3.out.trans (b4.mono B3.out.size)
    have H4 := Lib.hid (H3.out.later b4)
    clear b4 SM k0 k1 k2 k3
    by_cases hq : R = F
    · rw [decide_eq_true hq]
      have PF := Lib.hid (P1.out HE.out hq)
      clear hq
      go_wp2
      go_ret2
      exact ⟨B4.out, _, by rw [PF.out]; rfl, by rw [PF.out]; exact H4.out⟩
    · rw [decide_eq_false hq]
      have PF := Lib.hid (P2.out HE.out hq)
      clear hq
      go_wp2
      go_ret2
      exact ⟨B4.out, _, by rw [PF.out]; rfl, by rw [PF.out]; exact sin_none _⟩
  · have PF := Lib.hid (P0.out hE)
    have z1 : ((parseF (lnsF F)).2.2 != 0) = true := by rw [bne_iff_ne]; exact hE
    generalize (parseF (lnsF F)).2.2 = E at *
    clear hE SM
    go_wp2
    go_ret2
    exact ⟨B3.out, _, by rw [PF.out]; rfl, by rw [PF.out]; exact sin_none _⟩
set_option maxHeartbeats 4000000 in
theorem check_file {w : World} {vm vp vi vr : Value} {F : Fil} (h : FIn w vm vp vi vr F) (hb : FB F) :
    Calls Tryz.prog 22 #[.agg #[vm, vp, vi, vr]] w fun e w' => e = .returned (.int .i64 (printF F).2) ∧ Below w.heap.size w w' := by
  obtain ⟨a1, c1, a2, c2, a3, c3, a4, c4, rfl, rfl, rfl, rfl⟩ := h.shapes
  have ba : Below w.heap.size w (w.alloc (.cells #[.slice a1 F.1.length c1, .slice a2 F.2.1.length c2, .slice a3 F.2.2.1.length c3, .slice a4 F.2.2.2.length c4] 36)) := (Below.refl _ _).alloc (Nat.le_refl _) _
  have PR := Lib.hid (print_file (h.later ba) hb)
  have BA := Lib.hid ba
  clear h hb ba
  generalize F.1.length = n1 at *
  generalize F.2.1.length = n2 at *
  generalize F.2.2.1.length = n3 at *
  generalize F.2.2.2.length = n4 at *
  go_enter Tryz.func22, Tryz.ntmps22
  go_wp2_with fail
  refine PR.out.mono ?_
  rintro e w1 ⟨b1, v, rfl, hs⟩
  obtain ⟨a9, c9, rfl⟩ := hs.shape
  have B1 : Hid (Below w.heap.size w w1) := BA.out.trans (b1.mono BA.out.size)
  clear hs b1 PR
  generalize hE : (printF F).2 = E at *
  have HE := Lib.hid hE
  clear hE
  generalize (printF F).1.length = m at *
  go_wp2
  go_ret
  exact ⟨by rw [HE.out]; rfl, B1.out⟩
end Go.Proofs.YtfgcbdjkimkgpaaGreatDoor
namespace Go.Proofs.YtfgcbdjkimkgpaaGreatDoor
set_option maxRecDepth 100000
set_option linter.unusedVariables false
open Go.ChangeShapes Go.WideShapes Go.ChangeAt Go.RowKit

set_option maxHeartbeats 8000000 in
theorem file_back {w : World} {vm vp vi vr vl : Value} {F : Fil} {l : List Str} (h : FIn w vm vp vi vr F) (hb : FB F) (hl : SIn w vl l) (hx : ∀ x ∈ l, x.length ≤ 16777216) (hm : MX w) :
    Calls Tryz.prog 5 #[.agg #[vm, vp, vi, vr], vl] w fun e w' => e = .returned (.bool true) ∧ Below w.heap.size w w' := by
  obtain ⟨a1, c1, a2, c2, a3, c3, a4, c4, rfl, rfl, rfl, rfl⟩ := h.shapes
  have ba : Below w.heap.size w (w.alloc (.cells #[.slice a1 F.1.length c1, .slice a2 F.2.1.length c2, .slice a3 F.2.2.1.length c3, .slice a4 F.2.2.2.length c4] 36)) := (Below.refl _ _).alloc (Nat.le_refl _) _
  have S0 := Lib.hid (blk_new w #[.slice a1 F.1.length c1, .slice a2 F.2.1.length c2, .slice a3 F.2.2.1.length c3, .slice a4 F.2.2.2.length c4] 36)
  have FT := Lib.hid (files_true _ (hm.later ba))
  have HF : Hid (∀ W, Below w.heap.size w W → FIn W (.slice a1 F.1.length c1) (.slice a2 F.2.1.length c2) (.slice a3 F.2.2.1.length c3) (.slice a4 F.2.2.2.length c4) F) := fun W hW => h.later hW
  have PNF : Hid (∀ W, Below w.heap.size w W → Calls Tryz.prog 20 #[.agg #[.slice a1 F.1.length c1, .slice a2 F.2.1.length c2, .slice a3 F.2.2.1.length c3, .slice a4 F.2.2.2.length c4]] W (PnPost F W)) := fun W hW => print_file (h.later hW) hb
  have CKF : Hid (∀ W, Below w.heap.size w W → Calls Tryz.prog 22 #[.agg #[.slice a1 F.1.length c1, .slice a2 F.2.1.length c2, .slice a3 F.2.2.1.length c3, .slice a4 F.2.2.2.length c4]] W fun e w' => e = .returned (.int .i64 (printF F).2) ∧ Below W.heap.size W w') := fun W hW => check_file (h.later hW) hb
  have PL : Hid (∀ W, Below w.heap.size w W → Calls Tryz.prog 19 #[vl] W (PaPost l W)) := fun W hW => parse_file l vl W (hl.later hW) (fun x hq => by have := hx x hq; omega)
  have GB := Lib.hid (parseF_FB hx)
  have NL := Lib.hid (parseF_num l)
  have LB := Lib.hid hl.bound
  have FBH := Lib.hid hb
  obtain ⟨al, cl, rfl⟩ := hl.shape
  have BA := Lib.hid ba
  clear h hb hl hx hm ba
  generalize F.1.length = n1 at *
  generalize F.2.1.length = n2 at *
  generalize F.2.2.1.length = n3 at *
  generalize F.2.2.2.length = n4 at *
  generalize l.length = ln at *
  go_enter Tryz.func5, Tryz.ntmps5
  go_wp2_with fail
  refine FT.out.mono ?_
  rintro e w1 ⟨rfl, b1⟩
  have B1 : Hid (Below w.heap.size w w1) := BA.out.trans (b1.mono BA.out.size)
  have S1 := Lib.hid (S0.out.later b1)
  clear b1 S0 FT
  obtain ⟨k0, k1, k2, k3⟩ := show _ ∧ _ ∧ _ ∧ _ from ⟨S1.out.cell (i := 0) rfl, S1.out.cell (i := 1) rfl, S1.out.cell (i := 2) rfl, S1.out.cell (i := 3) rfl⟩
  go_wp2_with fail
  refine (PNF.out _ B1.out).mono ?_
  rintro e w2 ⟨b2, v2, rfl, hs2⟩
  have B2 : Hid (Below w.heap.size w w2) := B1.out.trans (b2.mono B1.out.size)
  have S2 := Lib.hid (S1.out.later b2)
  clear b2 S1 PNF k0 k1 k2 k3
  by_cases hE : (printF F).2 = 0
  · obtain ⟨e1, e2, e3⟩ := printF_ok hE
    rw [e1] at hs2
    rw [hE]
    have PA := Lib.hid (parse_file _ _ w2 hs2 (lns_small F FBH.out))
    have E2 := Lib.hid e2; have E3 := Lib.hid e3; have E4 := Lib.hid (parseF_zero e3)
    obtain ⟨a9, c9, rfl⟩ := hs2.shape
    clear hE e1 e2 e3 hs2 CKF FBH
    generalize (lnsF F).length = nl at *
    go_wp2_with fail
    refine PA.out.mono ?_
    rintro e w3 ⟨b3, hm, hp, hi, hr, rfl, hh⟩
    rw [E2.out] at hh
    rw [E3.out, E4.out]
    clear PA E2 E3 E4
    have B3 : Hid (Below w.heap.size w w3) := B2.out.trans (b3.mono B2.out.size)
    have S3 := Lib.hid (S2.out.later b3)
    obtain ⟨p1, q1, p2, q2, p3, q3, p4, q4, rfl, rfl, rfl, rfl⟩ := hh.shapes
    have bc : Below w3.heap.size w3 (w3.alloc (.cells #[.slice p1 F.1.length q1, .slice p2 F.2.1.length q2, .slice p3 F.2.2.1.length q3, .slice p4 F.2.2.2.length q4] 36)) := (Below.refl _ _).alloc (Nat.le_refl _) _
    have B4 : Hid (Below w.heap.size w (w3.alloc (.cells #[.slice p1 F.1.length q1, .slice p2 F.2.1.length q2, .slice p3 F.2.2.1.length q3, .slice p4 F.2.2.2.length q4] 36))) := B3.out.trans (bc.mono B3.out.size)
    have SM := sameK (HF.out _ B4.out) (hh.later bc)
    rw [decide_eq_true rfl] at SM
    have SX := S3.out.later bc
    obtain ⟨k0, k1, k2, k3⟩ := show _ ∧ _ ∧ _ ∧ _ from ⟨SX.cell (i := 0) rfl, SX.cell (i := 1) rfl, SX.cell (i := 2) rfl, SX.cell (i := 3) rfl⟩
    have SH := Lib.hid SM
    clear b3 bc SM SX hh S2 S3 HF
    generalize F.1.length = m1 at *
    generalize F.2.1.length = m2 at *
    generalize F.2.2.1.length = m3 at *
    generalize F.2.2.2.length = m4 at *
    go_wp2_with fail
    refine SH.out.mono ?_
    rintro e w5 ⟨rfl, b5⟩
    have B5 : Hid (Below w.heap.size w w5) := B4.out.trans (b5.mono B4.out.size)
    clear b5 SH k0 k1 k2 k3 B4 B3 B2 B1 BA
    go_wp2_with fail
    refine (PL.out _ B5.out).mono ?_
    rintro e w6 ⟨b6, gm, gp, gi, gr, rfl, hg⟩
    have B6 : Hid (Below w.heap.size w w6) := B5.out.trans (b6.mono B5.out.size)
    obtain ⟨x1, y1, x2, y2, x3, y3, x4, y4, rfl, rfl, rfl, rfl⟩ := hg.shapes
    clear b6 PL
    have bb : Below w6.heap.size w6 (w6.alloc (.cells #[.slice x1 (parseF l).1.1.length y1, .slice x2 (parseF l).1.2.1.length y2, .slice x3 (parseF l).1.2.2.1.length y3, .slice x4 (parseF l).1.2.2.2.length y4] 36)) := (Below.refl _ _).alloc (Nat.le_refl _) _
    have b0 := blk_new w6 #[.slice x1 (parseF l).1.1.length y1, .slice x2 (parseF l).1.2.1.length y2, .slice x3 (parseF l).1.2.2.1.length y3, .slice x4 (parseF l).1.2.2.2.length y4] 36
    have B7 : Hid (Below w.heap.size w (w6.alloc (.cells #[.slice x1 (parseF l).1.1.length y1, .slice x2 (parseF l).1.2.1.length y2, .slice x3 (parseF l).1.2.2.1.length y3, .slice x4 (parseF l).1.2.2.2.length y4] 36))) := B6.out.trans (bb.mono B6.out.size)
    have hg7 := hg.later bb
    by_cases hE2 : (parseF l).2.2 = 0
    · have PR := Lib.hid (print_file hg7 GB.out)
      have GF := Lib.hid hg7
      have S7 := Lib.hid b0
      rw [hE2]
      clear hE2 hg hg7 bb b0
      generalize (((parseF l).2.1 : Nat) : Int) = N at *
      generalize (parseF l).1 = G at *
      go_wp2_with fail
      refine PR.out.mono ?_
      rintro e w8 ⟨b8, v8, rfl, hs8⟩
      have B8 : Hid (Below w.heap.size w w8) := B7.out.trans (b8.mono B7.out.size)
      have S8 := Lib.hid (S7.out.later b8)
      have G8 := Lib.hid (GF.out.later b8)
      clear b8 PR S7 GF
      by_cases hE3 : (printF G).2 = 0
      · obtain ⟨e1, e2, e3⟩ := printF_ok hE3
        rw [e1] at hs8
        rw [hE3]
        have PA := Lib.hid (parse_file _ _ w8 hs8 (lns_small G GB.out))
        have E2 := Lib.hid e2; have E3 := Lib.hid e3; have E4 := Lib.hid (parseF_zero e3)
        obtain ⟨a9, c9, rfl⟩ := hs8.shape
        clear hE3 e1 e2 e3 hs8
        generalize (lnsF G).length = nl at *
        go_wp2_with fail
        refine PA.out.mono ?_
        rintro e w9 ⟨b9, hm, hp, hi, hr, rfl, hh⟩
        rw [E2.out] at hh
        rw [E3.out]
        clear PA E2 E3 E4
        generalize (((parseF (lnsF G)).2.1 : Nat) : Int) = N2 at *
        have B9 : Hid (Below w.heap.size w w9) := B8.out.trans (b9.mono B8.out.size)
        have S9 := Lib.hid (S8.out.later b9)
        have G9 := Lib.hid (G8.out.later b9)
        obtain ⟨p1, q1, p2, q2, p3, q3, p4, q4, rfl, rfl, rfl, rfl⟩ := hh.shapes
        have bc : Below w9.heap.size w9 (w9.alloc (.cells #[.slice p1 G.1.length q1, .slice p2 G.2.1.length q2, .slice p3 G.2.2.1.length q3, .slice p4 G.2.2.2.length q4] 36)) := (Below.refl _ _).alloc (Nat.le_refl _) _
        have BX : Hid (Below w.heap.size w (w9.alloc (.cells #[.slice p1 G.1.length q1, .slice p2 G.2.1.length q2, .slice p3 G.2.2.1.length q3, .slice p4 G.2.2.2.length q4] 36))) := B9.out.trans (bc.mono B9.out.size)
        have SM := sameK (hh.later bc) (G9.out.later bc)
        rw [decide_eq_true rfl] at SM
        have SX := S9.out.later bc
        obtain ⟨k0, k1, k2, k3⟩ := show _ ∧ _ ∧ _ ∧ _ from ⟨SX.cell (i := 0) rfl, SX.cell (i := 1) rfl, SX.cell (i := 2) rfl, SX.cell (i := 3) rfl⟩
        have SH := Lib.hid SM
        clear b9 bc SM SX hh S8 S9 G8 G9
        generalize G.1.length = g1 at *
        generalize G.2.1.length = g2 at *
        generalize G.2.2.1.length = g3 at *
        generalize G.2.2.2.length = g4 at *
        go_wp2_with fail
        refine SH.out.mono ?_
        rintro e wz ⟨rfl, bz⟩
        have BZ : Hid (Below w.heap.size w wz) := BX.out.trans (bz.mono BX.out.size)
        clear bz SH k0 k1 k2 k3
        go_wp2
        go_ret
        exact ⟨rfl, BZ.out⟩
      · rw [printF_bad hE3] at hs8
        obtain ⟨a9, c9, rfl⟩ := hs8.shape
        have z1 : ((printF G).2 != 0) = true := by rw [bne_iff_ne]; exact hE3
        clear hE3 hs8 S8 G8
        simp only [List.length_nil]
        generalize (printF G).2 = EG at *
        go_wp2
        go_ret
        exact ⟨rfl, B8.out⟩
    · have SM := sameK hg7 (FIn.nil _)
      rw [decide_eq_true (parseF_err hE2)] at SM
      have SH := Lib.hid SM
      have z1 : ((parseF l).2.2 != 0) = true := by rw [bne_iff_ne]; exact hE2
      have hN := NL.out
      clear hE2 SM hg hg7 bb GB
      obtain ⟨k0, k1, k2, k3⟩ := show _ ∧ _ ∧ _ ∧ _ from ⟨b0.cell (i := 0) rfl, b0.cell (i := 1) rfl, b0.cell (i := 2) rfl, b0.cell (i := 3) rfl⟩
      clear b0
      generalize (parseF l).2.2 = EL at *
      generalize (parseF l).2.1 = N at *
      generalize (parseF l).1 = G at *
      generalize G.1.length = g1 at *
      generalize G.2.1.length = g2 at *
      generalize G.2.2.1.length = g3 at *
      generalize G.2.2.2.length = g4 at *
      go_wp2_with fail
      refine SH.out.mono ?_
      rintro e wz ⟨rfl, bz⟩
      have BZ : Hid (Below w.heap.size w wz) := B7.out.trans (bz.mono B7.out.size)
      clear bz SH k0 k1 k2 k3
      go_wp2
      go_ret
      exact ⟨rfl, BZ.out⟩
  · rw [printF_bad hE] at hs2
    obtain ⟨a9, c9, rfl⟩ := hs2.shape
    have z1 : ((printF F).2 == 0) = false := by rw [beq_eq_false_iff_ne]; exact hE
    have z2 : ((printF F).2 != (printF F).2) = false := by simp
    clear hE hs2
    obtain ⟨k0, k1, k2, k3⟩ := show _ ∧ _ ∧ _ ∧ _ from ⟨S2.out.cell (i := 0) rfl, S2.out.cell (i := 1) rfl, S2.out.cell (i := 2) rfl, S2.out.cell (i := 3) rfl⟩
    simp only [List.length_nil]
    generalize (printF F).2 = EF at *
    go_wp2_with fail
    refine (CKF.out _ B2.out).mono ?_
    rintro e w5 ⟨rfl, b5⟩
    have B5 : Hid (Below w.heap.size w w5) := B2.out.trans (b5.mono B2.out.size)
    clear b5 k0 k1 k2 k3 CKF S2 HF FBH B2 B1 BA
    go_wp2_with fail
    refine (PL.out _ B5.out).mono ?_
    rintro e w6 ⟨b6, gm, gp, gi, gr, rfl, hg⟩
    have B6 : Hid (Below w.heap.size w w6) := B5.out.trans (b6.mono B5.out.size)
    obtain ⟨x1, y1, x2, y2, x3, y3, x4, y4, rfl, rfl, rfl, rfl⟩ := hg.shapes
    clear b6 PL
    have bb : Below w6.heap.size w6 (w6.alloc (.cells #[.slice x1 (parseF l).1.1.length y1, .slice x2 (parseF l).1.2.1.length y2, .slice x3 (parseF l).1.2.2.1.length y3, .slice x4 (parseF l).1.2.2.2.length y4] 36)) := (Below.refl _ _).alloc (Nat.le_refl _) _
    have b0 := blk_new w6 #[.slice x1 (parseF l).1.1.length y1, .slice x2 (parseF l).1.2.1.length y2, .slice x3 (parseF l).1.2.2.1.length y3, .slice x4 (parseF l).1.2.2.2.length y4] 36
    have B7 : Hid (Below w.heap.size w (w6.alloc (.cells #[.slice x1 (parseF l).1.1.length y1, .slice x2 (parseF l).1.2.1.length y2, .slice x3 (parseF l).1.2.2.1.length y3, .slice x4 (parseF l).1.2.2.2.length y4] 36))) := B6.out.trans (bb.mono B6.out.size)
    have hg7 := hg.later bb
    by_cases hE2 : (parseF l).2.2 = 0
    · have PR := Lib.hid (print_file hg7 GB.out)
      have GF := Lib.hid hg7
      have S7 := Lib.hid b0
      rw [hE2]
      clear hE2 hg hg7 bb b0
      generalize (((parseF l).2.1 : Nat) : Int) = N at *
      generalize (parseF l).1 = G at *
      go_wp2_with fail
      refine PR.out.mono ?_
      rintro e w8 ⟨b8, v8, rfl, hs8⟩
      have B8 : Hid (Below w.heap.size w w8) := B7.out.trans (b8.mono B7.out.size)
      have S8 := Lib.hid (S7.out.later b8)
      have G8 := Lib.hid (GF.out.later b8)
      clear b8 PR S7 GF
      by_cases hE3 : (printF G).2 = 0
      · obtain ⟨e1, e2, e3⟩ := printF_ok hE3
        rw [e1] at hs8
        rw [hE3]
        have PA := Lib.hid (parse_file _ _ w8 hs8 (lns_small G GB.out))
        have E2 := Lib.hid e2; have E3 := Lib.hid e3; have E4 := Lib.hid (parseF_zero e3)
        obtain ⟨a9, c9, rfl⟩ := hs8.shape
        clear hE3 e1 e2 e3 hs8
        generalize (lnsF G).length = nl at *
        go_wp2_with fail
        refine PA.out.mono ?_
        rintro e w9 ⟨b9, hm, hp, hi, hr, rfl, hh⟩
        rw [E2.out] at hh
        rw [E3.out]
        clear PA E2 E3 E4
        generalize (((parseF (lnsF G)).2.1 : Nat) : Int) = N2 at *
        have B9 : Hid (Below w.heap.size w w9) := B8.out.trans (b9.mono B8.out.size)
        have S9 := Lib.hid (S8.out.later b9)
        have G9 := Lib.hid (G8.out.later b9)
        obtain ⟨p1, q1, p2, q2, p3, q3, p4, q4, rfl, rfl, rfl, rfl⟩ := hh.shapes
        have bc : Below w9.heap.size w9 (w9.alloc (.cells #[.slice p1 G.1.length q1, .slice p2 G.2.1.length q2, .slice p3 G.2.2.1.length q3, .slice p4 G.2.2.2.length q4] 36)) := (Below.refl _ _).alloc (Nat.le_refl _) _
        have BX : Hid (Below w.heap.size w (w9.alloc (.cells #[.slice p1 G.1.length q1, .slice p2 G.2.1.length q2, .slice p3 G.2.2.1.length q3, .slice p4 G.2.2.2.length q4] 36))) := B9.out.trans (bc.mono B9.out.size)
        have SM := sameK (hh.later bc) (G9.out.later bc)
        rw [decide_eq_true rfl] at SM
        have SX := S9.out.later bc
        obtain ⟨k0, k1, k2, k3⟩ := show _ ∧ _ ∧ _ ∧ _ from ⟨SX.cell (i := 0) rfl, SX.cell (i := 1) rfl, SX.cell (i := 2) rfl, SX.cell (i := 3) rfl⟩
        have SH := Lib.hid SM
        clear b9 bc SM SX hh S8 S9 G8 G9
        generalize G.1.length = g1 at *
        generalize G.2.1.length = g2 at *
        generalize G.2.2.1.length = g3 at *
        generalize G.2.2.2.length = g4 at *
        go_wp2_with fail
        refine SH.out.mono ?_
        rintro e wz ⟨rfl, bz⟩
        have BZ : Hid (Below w.heap.size w wz) := BX.out.trans (bz.mono BX.out.size)
        clear bz SH k0 k1 k2 k3
        go_wp2
        go_ret
        exact ⟨rfl, BZ.out⟩
      · rw [printF_bad hE3] at hs8
        obtain ⟨a9, c9, rfl⟩ := hs8.shape
        have z1 : ((printF G).2 != 0) = true := by rw [bne_iff_ne]; exact hE3
        clear hE3 hs8 S8 G8
        simp only [List.length_nil]
        generalize (printF G).2 = EG at *
        go_wp2
        go_ret
        exact ⟨rfl, B8.out⟩
    · have SM := sameK hg7 (FIn.nil _)
      rw [decide_eq_true (parseF_err hE2)] at SM
      have SH := Lib.hid SM
      have z1 : ((parseF l).2.2 != 0) = true := by rw [bne_iff_ne]; exact hE2
      have hN := NL.out
      clear hE2 SM hg hg7 bb GB
      obtain ⟨k0, k1, k2, k3⟩ := show _ ∧ _ ∧ _ ∧ _ from ⟨b0.cell (i := 0) rfl, b0.cell (i := 1) rfl, b0.cell (i := 2) rfl, b0.cell (i := 3) rfl⟩
      clear b0
      generalize (parseF l).2.2 = EL at *
      generalize (parseF l).2.1 = N at *
      generalize (parseF l).1 = G at *
      generalize G.1.length = g1 at *
      generalize G.2.1.length = g2 at *
      generalize G.2.2.1.length = g3 at *
      generalize G.2.2.2.length = g4 at *
      go_wp2_with fail
      refine SH.out.mono ?_
      rintro e wz ⟨rfl, bz⟩
      have BZ : Hid (Below w.heap.size w wz) := B7.out.trans (bz.mono B7.out.size)
      clear bz SH k0 k1 k2 k3
      go_wp2
      go_ret
      exact ⟨rfl, BZ.out⟩
end Go.Proofs.YtfgcbdjkimkgpaaGreatDoor
