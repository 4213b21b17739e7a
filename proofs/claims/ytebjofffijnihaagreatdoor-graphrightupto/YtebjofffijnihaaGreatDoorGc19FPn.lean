/-
  Package file's Print and Check; what Parse answers is of bounded size. Condition: FB (names, values and rows of at most 2^24 bytes).
  Blocks of cells; small facts that more than one text wants. No condition.
  Package infer: isSuffix and Check. Condition: the strings have at most 2^63 - 1 bytes.
  Package infer: Check. Condition: the strings have at most 2^63 - 1 bytes.
  The shelf's contracts laid at this program, in plain words: that the library's functions stand in it as the shelf has them. No condition.
  What package name's Stem and the reference's StemOf answer: where a name is cut. Condition: a string takes fewer than 2^62 bytes.
-/
import Derived.Test.YtebjofffijnihaaGreatDoorGc18FLo
import Derived.Test.YtebjofffijnihaaGreatDoorGc5MBy
import Derived.Test.YtebjofffijnihaaGreatDoorGc4LIn
import Derived.Laws.StructEq
import Derived.Deep.RegionHeld3
import Derived.Test.YtebjofffijnihaaGreatDoorRows
import Derived.Shelf.Strings.LastIndex
import Derived.Test.YtebjofffijnihaaGreatDoorGc1Ls
import Derived.Lib.LastIndexByte
import Derived.Lib.Walk
namespace Go.Proofs.YtebjofffijnihaaGreatDoor
set_option maxRecDepth 100000
set_option linter.unusedVariables false
open Go.ChangeShapes Go.WideShapes Go.ChangeAt Go.RowKit

theorem pairR_len {s : Str} {p : Mc} (h : pairR s = some p) : p.1.length ≤ s.length ∧ p.2.length ≤ s.length := by
  cases s with
  | nil => cases h
  | cons c r =>
    by_cases hc : c = 46
    · subst hc
      rw [pairR_cons] at h
      cases hq : cutB 46 r with
      | none => rw [hq] at h; cases h
      | some q =>
        rw [hq] at h
        simp only [] at h
        split at h
        · cases h
          obtain ⟨h1, _, _, _, _, h6⟩ := cutB_some hq
          have e : r.length = q.1.length + (q.2.length + 1) := by conv => lhs; rw [h6]
                                                                  rw [List.length_append, List.length_cons]
          simp only [List.length_cons]; omega
        · cases h
    · rw [show pairR (c :: r) = none by simp [pairR, hc]] at h; cases h
theorem infR_len {r : Rl} {p : Mc} (h : infR r = some p) (hr : chkR r = 0) : p.1.length ≤ 40 ∧ p.2.length ≤ 40 := by
  unfold infR at h
  split at h
  · rename_i hc
    obtain ⟨_, _, _, hg, _⟩ := chk_ok hr
    have hm : r.1.getD 0 [] ∈ r.1 := getD_mem (by omega)
    have h1 := (good_len (List.all_eq_true.1 hg _ hm)).2
    have h2 := pairR_len h
    omega
  · cases h
theorem bulk_short {l : List Str} (h : ∀ y ∈ l, y.length ≤ 40) : bulk l ≤ 41 * l.length := by
  induction l with
  | nil => simp [bulk]
  | cons x r ih =>
    have h1 := h x (List.mem_cons_self ..)
    have h2 := ih fun y hy => h y (List.mem_cons_of_mem _ hy)
    rw [bulk_cons, List.length_cons]
    omega
/-- what Parse keeps of what it has added -/
structure IV (i : Nat) (st : St) : Prop where
  p1 : st.1.length ≤ 20
  p2 : ∀ y ∈ st.1, y.length ≤ 40
  i1 : st.2.1.length ≤ i
  i2 : ∀ m ∈ st.2.1, m.1.length ≤ 40 ∧ m.2.length ≤ 40
  r1 : st.2.2.length ≤ 100
  r2 : ∀ r ∈ st.2.2, chkR r = 0
theorem IV.mono {i j : Nat} {st : St} (h : IV i st) (hij : i ≤ j) : IV j st := ⟨h.p1, h.p2, Nat.le_trans h.i1 hij, h.i2, h.r1, h.r2⟩
theorem good_short {l : List Str} (h : l.all good = true) : ∀ y ∈ l, y.length ≤ 40 := fun y hy => (good_len (List.all_eq_true.1 h _ hy)).2
theorem putL_iv {i : Nat} {st : St} {r : Rl} (h : IV i st) (hr : chkR r = 0) (h0 : (putL st r).1 = 0) : IV (i + 1) (putL st r).2 := by
  unfold putL at *
  by_cases e3 : r.1.contains phonyW = true
  · rw [if_pos e3] at h0 ⊢
    by_cases e4 : 1 < r.1.length
    · rw [if_pos e4] at h0; cases h0
    rw [if_neg e4] at h0 ⊢
    by_cases e5 : 20 < (phN st.1 r.2).length
    · rw [if_pos e5] at h0; cases h0
    rw [if_neg e5]
    refine ⟨by show (phN st.1 r.2).length ≤ 20; omega, fun y hy => ?_, by have := h.i1; show st.2.1.length ≤ _; omega, h.i2, h.r1, h.r2⟩
    rcases phN_mem _ _ hy with hy | hy
    · exact h.p2 y hy
    · obtain ⟨_, _, _, _, hg⟩ := chk_ok hr
      exact good_short hg y hy
  · rw [if_neg e3] at h0 ⊢
    cases hi : infR r with
    | some p =>
      refine ⟨h.p1, h.p2, Nat.le_trans (addU_lenI _ _) (by have := h.i1; omega), fun m hm => ?_, h.r1, h.r2⟩
      have hm : m ∈ addU st.2.1 p := hm
      unfold addU at hm
      split at hm
      · exact h.i2 m hm
      · rcases List.mem_append.1 hm with hm | hm
        · exact h.i2 m hm
        · rw [List.mem_singleton.1 hm]; exact infR_len hi hr
    | none =>
      rw [hi] at h0
      simp only [] at h0 ⊢
      by_cases e5 : 100 < st.2.2.length + 1
      · rw [if_pos e5] at h0; cases h0
      rw [if_neg e5]
      refine ⟨h.p1, h.p2, by have := h.i1; show st.2.1.length ≤ _; omega, h.i2, by show (st.2.2 ++ [r]).length ≤ 100; rw [List.length_append, List.length_singleton]; omega, fun q hq => ?_⟩
      rcases List.mem_append.1 hq with hq | hq
      · exact h.r2 q hq
      · rw [List.mem_singleton.1 hq]; exact hr
theorem addL_iv {z : List Mc} {i : Nat} {st : St} {s : Str} (h : IV i st) (h0 : (addL z st s).1 = 0) : IV (i + 1) (addL z st s).2 := by
  unfold addL at *
  by_cases e1 : (expR z s).2 ≠ 0
  · rw [if_pos e1] at h0; exact absurd h0 e1
  rw [if_neg e1] at h0 ⊢
  by_cases e2 : (parseR (expR z s).1).2 ≠ 0
  · rw [if_pos e2] at h0; exact absurd h0 e2
  rw [if_neg e2] at h0 ⊢
  exact putL_iv h (parse_fine (by simpa using e2)) h0
theorem goL_iv {z : List Mc} : ∀ {l : List Str} {i j : Nat} {st : St}, IV i st → (goL z j st l).2.2 = 0 → IV (i + l.length) (goL z j st l).1
  | [], i, j, st, h, _ => by simpa [goL] using h
  | s :: r, i, j, st, h, h0 => by
    cases hd : defR s with
    | some m =>
      rw [goL_skip (by rw [hd]; rfl)] at h0 ⊢
      exact (goL_iv h h0).mono (by rw [List.length_cons]; omega)
    | none =>
      by_cases hk : (addL z st s).1 = 0
      · rw [goL_step hd hk] at h0 ⊢
        exact (goL_iv (addL_iv h hk) h0).mono (by rw [List.length_cons]; omega)
      · rw [goL_bad hd hk] at h0
        exact absurd h0 hk
theorem FB.nil : FB ([], [], [], []) := ⟨fun m hm => absurd hm List.not_mem_nil, by simp [bulk], fun m hm => absurd hm List.not_mem_nil, fun m hm => absurd hm List.not_mem_nil, by decide⟩
theorem parseF_FB {l : List Str} (hx : ∀ x ∈ l, x.length ≤ 16777216) : FB (parseF l).1 := by
  unfold parseF
  by_cases h1 : 200 < l.length
  · rw [if_pos h1]; exact FB.nil
  rw [if_neg h1]
  by_cases h2 : flatE (defsR l) ≠ 0
  · rw [if_pos h2]; exact FB.nil
  rw [if_neg h2]
  by_cases h3 : (goL (defsR l) 0 ([], [], []) l).2.2 ≠ 0
  · rw [if_pos h3]; exact FB.nil
  rw [if_neg h3]
  have iv := goL_iv (z := defsR l) (l := l) (i := 0) (j := 0) (st := ([], [], [])) ⟨by decide, fun y hy => absurd hy List.not_mem_nil, by decide, fun y hy => absurd hy List.not_mem_nil, by decide, fun y hy => absurd hy List.not_mem_nil⟩ (by simpa using h3)
  generalize (goL (defsR l) 0 ([], [], []) l).1 = st at *
  have dl := defs_len l
  refine ⟨fun m hm => ?_, ?_, fun m hm => ?_, fun r hr => ?_, ?_⟩
  · obtain ⟨s, hs, he⟩ := List.mem_filterMap.1 hm
    have h4 := defR_len he
    have h5 := hx s hs
    omega
  · have h4 := bulk_short iv.p2
    have h5 := iv.p1
    show bulk st.1 ≤ _
    omega
  · have h4 := iv.i2 m hm
    omega
  · obtain ⟨q1, q2, _, q3, q4⟩ := chk_ok (iv.r2 r hr)
    have h4 := bulk_short (good_short q3)
    have h5 := bulk_short (good_short q4)
    omega
  · have h4 := iv.i1
    have h5 := iv.r1
    refine ⟨?_, ?_, ?_⟩
    · show (defsR l).length ≤ _; omega
    · show st.2.1.length ≤ _; omega
    · show st.2.2.length ≤ _; omega
theorem parseF_zero {l : List Str} (h : (parseF l).2.2 = 0) : (parseF l).2.1 = 0 := by
  unfold parseF at *
  split
  · rfl
  · rename_i h1
    rw [if_neg h1] at h
    split
    · rfl
    · rename_i h2
      rw [if_neg h2] at h
      split
      · rename_i h3
        rw [if_pos h3] at h
        exact absurd h h3
      · rfl
theorem parseF_err {l : List Str} (h : (parseF l).2.2 ≠ 0) : (parseF l).1 = ([], [], [], []) := by
  unfold parseF at *
  split
  · rfl
  · rename_i h1
    rw [if_neg h1] at h
    split
    · rfl
    · rename_i h2
      rw [if_neg h2] at h
      split
      · rfl
      · rename_i h3
        rw [if_neg h3] at h
        exact absurd rfl h
theorem parseF_num (l : List Str) : (parseF l).2.1 ≤ l.length := by
  unfold parseF
  split
  · exact Nat.zero_le _
  · split
    · exact Nat.zero_le _
    · split
      · rename_i h3
        rcases goL_zero (z := defsR l) (l := l) (i := 0) (st := ([], [], [])) with h | ⟨_, _, h⟩
        · exact absurd h.2 h3
        · show (goL (defsR l) 0 ([], [], []) l).2.1 ≤ _
          omega
      · exact Nat.zero_le _
theorem printF_no {F : Fil} (h : (parseF (lnsF F)).2.2 ≠ 0) : printF F = ([], (parseF (lnsF F)).2.2) := by unfold printF; rw [if_pos h]
theorem printF_yes {F : Fil} (h : (parseF (lnsF F)).2.2 = 0) (k : (parseF (lnsF F)).1 = F) : printF F = (lnsF F, 0) := by unfold printF; rw [if_neg (fun e => e h), if_pos k]
theorem printF_other {F : Fil} (h : (parseF (lnsF F)).2.2 = 0) (k : (parseF (lnsF F)).1 ≠ F) : printF F = ([], 3) := by unfold printF; rw [if_neg (fun e => e h), if_neg k]
theorem printF_ok {F : Fil} (h : (printF F).2 = 0) : (printF F).1 = lnsF F ∧ (parseF (lnsF F)).1 = F ∧ (parseF (lnsF F)).2.2 = 0 := by
  by_cases h1 : (parseF (lnsF F)).2.2 = 0
  · by_cases h2 : (parseF (lnsF F)).1 = F
    · rw [printF_yes h1 h2]; exact ⟨rfl, h2, h1⟩
    · rw [printF_other h1 h2] at h; cases h
  · rw [printF_no h1] at h; exact absurd h h1
theorem printF_bad {F : Fil} (h : (printF F).2 ≠ 0) : (printF F).1 = [] := by
  by_cases h1 : (parseF (lnsF F)).2.2 = 0
  · by_cases h2 : (parseF (lnsF F)).1 = F
    · rw [printF_yes h1 h2] at h; exact absurd rfl h
    · rw [printF_other h1 h2]
  · rw [printF_no h1]
theorem FIn.shapes {w : World} {vm vp vi vr : Value} {F : Fil} (h : FIn w vm vp vi vr F) : ∃ a1 c1 a2 c2 a3 c3 a4 c4, vm = .slice a1 F.1.length c1 ∧ vp = .slice a2 F.2.1.length c2 ∧ vi = .slice a3 F.2.2.1.length c3 ∧ vr = .slice a4 F.2.2.2.length c4 := by
  obtain ⟨⟨a1, c1, h1, _⟩, h2, ⟨a3, c3, h3, _⟩, ⟨a4, c4, h4, _⟩⟩ := h
  obtain ⟨a2, c2, h2⟩ := h2.shape
  exact ⟨a1, c1, a2, c2, a3, c3, a4, c4, h1, h2, h3, h4⟩
/-- what Print hands back -/
def PnPost (F : Fil) (w : World) (e : Ending) (w' : World) : Prop :=
  Below w.heap.size w w' ∧ ∃ v, e = .returned (.tuple #[v, .int .i64 (printF F).2]) ∧ SIn w' v (printF F).1
set_option maxHeartbeats 4000000 in
theorem print_file {w : World} {vm vp vi vr : Value} {F : Fil} (h : FIn w vm vp vi vr F) (hb : FB F) :
    Calls Tryz.prog 27 #[.agg #[vm, vp, vi, vr]] w (PnPost F w) := by
  have LS := Lib.hid (lns_small F hb)
  have P0 : Hid ((parseF (lnsF F)).2.2 ≠ 0 → printF F = ([], (parseF (lnsF F)).2.2)) := printF_no
  have P1 : Hid ((parseF (lnsF F)).2.2 = 0 → (parseF (lnsF F)).1 = F → printF F = (lnsF F, 0)) := printF_yes
  have P2 : Hid ((parseF (lnsF F)).2.2 = 0 → (parseF (lnsF F)).1 ≠ F → printF F = ([], 3)) := printF_other
  obtain ⟨a1, c1, a2, c2, a3, c3, a4, c4, rfl, rfl, rfl, rfl⟩ := h.shapes
  have ba : Below w.heap.size w (w.alloc (.cells #[.slice a1 F.1.length c1, .slice a2 F.2.1.length c2, .slice a3 F.2.2.1.length c3, .slice a4 F.2.2.2.length c4] 27)) := (Below.refl _ _).alloc (Nat.le_refl _) _
  have LO := Lib.hid (linesOf_any (h.later ba) hb)
  have HF : Hid (∀ W, Below w.heap.size w W → FIn W (.slice a1 F.1.length c1) (.slice a2 F.2.1.length c2) (.slice a3 F.2.2.1.length c3) (.slice a4 F.2.2.2.length c4) F) := fun W hW => h.later hW
  have S0 := Lib.hid (blk_new w #[.slice a1 F.1.length c1, .slice a2 F.2.1.length c2, .slice a3 F.2.2.1.length c3, .slice a4 F.2.2.2.length c4] 27)
  have BA := Lib.hid ba
  clear h hb ba
  generalize F.1.length = n1 at *
  generalize F.2.1.length = n2 at *
  generalize F.2.2.1.length = n3 at *
  generalize F.2.2.2.length = n4 at *
  unfold PnPost
  go_enter Tryz.func27, Tryz.ntmps27
  go_wp2_with fail
  refine LO.out.mono ?_
  rintro e w1 ⟨v1, rfl, hs, b1⟩
  obtain ⟨a9, c9, rfl⟩ := hs.shape
  have B1 : Hid (Below w.heap.size w w1) := BA.out.trans (b1.mono BA.out.size)
  have S1 := Lib.hid (S0.out.later b1)
  have H1 := Lib.hid hs
  have PA := Lib.hid (parse_file _ _ w1 hs LS.out)
  clear hs b1 LO S0
  generalize (lnsF F).length = nl at *
  go_wp2_with fail
  refine PA.out.mono ?_
  rintro e w2 ⟨b2, um, up, ui, ur, rfl, hf⟩
  have B2 : Hid (Below w.heap.size w w2) := B1.out.trans (b2.mono B1.out.size)
  have S2 := Lib.hid (S1.out.later b2)
  have H2 := Lib.hid (H1.out.later b2)
  obtain ⟨x1, y1, x2, y2, x3, y3, x4, y4, rfl, rfl, rfl, rfl⟩ := hf.shapes
  clear b2 PA S1 H1
  generalize (((parseF (lnsF F)).2.1 : Nat) : Int) = N at *
  generalize hR : (parseF (lnsF F)).1 = R at *
  have bb : Below w2.heap.size w2 (w2.alloc (.cells #[.slice x1 R.1.length y1, .slice x2 R.2.1.length y2, .slice x3 R.2.2.1.length y3, .slice x4 R.2.2.2.length y4] 27)) := (Below.refl _ _).alloc (Nat.le_refl _) _
  have B3 : Hid (Below w.heap.size w (w2.alloc (.cells #[.slice x1 R.1.length y1, .slice x2 R.2.1.length y2, .slice x3 R.2.2.1.length y3, .slice x4 R.2.2.2.length y4] 27))) := B2.out.trans (bb.mono B2.out.size)
  have H3 := Lib.hid (H2.out.later bb)
  have SM := Lib.hid (sameP (hf.later bb) (HF.out _ B3.out))
  have S3 := S2.out.later bb
  obtain ⟨k0, k1, k2, k3⟩ := show _ ∧ _ ∧ _ ∧ _ from ⟨S3.cell (i := 0) rfl, S3.cell (i := 1) rfl, S3.cell (i := 2) rfl, S3.cell (i := 3) rfl⟩
  clear hf bb S3 HF
  generalize R.1.length = m1 at *
  generalize R.2.1.length = m2 at *
  generalize R.2.2.1.length = m3 at *
  generalize R.2.2.2.length = m4 at *
  by_cases hE : (parseF (lnsF F)).2.2 = 0
  · rw [hE]
    have HE := Lib.hid hE
    clear hE
    go_wp2_with fail
    refine SM.out.mono ?_
    rintro e w4 ⟨rfl, b4⟩
    have B4 : Hid (Below w.heap.size w w4) := B3.out.trans (b4.mono B3.out.size)
    have H4 := Lib.hid (H3.out.later b4)
    clear b4 SM k0 k1 k2 k3
    by_cases hq : R = F
    · rw [decide_eq_true hq]
      have PF := Lib.hid (P1.out HE.out hq)
      clear hq
      go_wp2
      go_ret2
      exact ⟨B4.out, _, by rw [PF.out]; rfl, by rw [PF.out]; exact H4.out⟩
    · rw [decide_eq_false hq]
      have PF := Lib.hid (P2.out HE.out hq)
      clear hq
      go_wp2
      go_ret2
      exact ⟨B4.out, _, by rw [PF.out]; rfl, by rw [PF.out]; exact sin_none _⟩
  · have PF := Lib.hid (P0.out hE)
    have z1 : ((parseF (lnsF F)).2.2 != 0) = true := by rw [bne_iff_ne]; exact hE
    generalize (parseF (lnsF F)).2.2 = E at *
    clear hE SM
    go_wp2
    go_ret2
    exact ⟨B3.out, _, by rw [PF.out]; rfl, by rw [PF.out]; exact sin_none _⟩
set_option maxHeartbeats 4000000 in
theorem check_file {w : World} {vm vp vi vr : Value} {F : Fil} (h : FIn w vm vp vi vr F) (hb : FB F) :
    Calls Tryz.prog 12 #[.agg #[vm, vp, vi, vr]] w fun e w' => e = .returned (.int .i64 (printF F).2) ∧ Below w.heap.size w w' := by
  obtain ⟨a1, c1, a2, c2, a3, c3, a4, c4, rfl, rfl, rfl, rfl⟩ := h.shapes
  have ba : Below w.heap.size w (w.alloc (.cells #[.slice a1 F.1.length c1, .slice a2 F.2.1.length c2, .slice a3 F.2.2.1.length c3, .slice a4 F.2.2.2.length c4] 27)) := (Below.refl _ _).alloc (Nat.le_refl _) _
  have PR := Lib.hid (print_file (h.later ba) hb)
  have BA := Lib.hid ba
  clear h hb ba
  generalize F.1.length = n1 at *
  generalize F.2.1.length = n2 at *
  generalize F.2.2.1.length = n3 at *
  generalize F.2.2.2.length = n4 at *
  go_enter Tryz.func12, Tryz.ntmps12
  go_wp2_with fail
  refine PR.out.mono ?_
  rintro e w1 ⟨b1, v, rfl, hs⟩
  obtain ⟨a9, c9, rfl⟩ := hs.shape
  have B1 : Hid (Below w.heap.size w w1) := BA.out.trans (b1.mono BA.out.size)
  clear hs b1 PR
  generalize hE : (printF F).2 = E at *
  have HE := Lib.hid hE
  clear hE
  generalize (printF F).1.length = m at *
  go_wp2
  go_ret
  exact ⟨by rw [HE.out]; rfl, B1.out⟩
end Go.Proofs.YtebjofffijnihaaGreatDoor
namespace Go.Proofs.YtebjofffijnihaaGreatDoor
set_option maxRecDepth 100000
set_option linter.unusedVariables false
open Go.ChangeShapes Go.WideShapes Go.ChangeAt Go.RowKit

theorem blk_grown {k : Nat} {xs : Array Value} {t : TypeId} {w w' : World} {row : Option Nat} (h : Blk k xs t w) (g : w.grownBy w' row) (hr : ∀ q, row = some q → q < k) : Blk k xs t w' :=
  h.at (g.block k h.lt (fun e => by have := hr k e.symm; omega))
theorem below_drewN {B : Nat} {a w : World} (h : Below B a w) (n : Nat) : Below B a (w.drewN n) := ⟨h.os, h.tape, h.output, h.size, h.block⟩
end Go.Proofs.YtebjofffijnihaaGreatDoor
namespace Go.Proofs.YtebjofffijnihaaGreatDoor
set_option maxRecDepth 100000
set_option linter.unusedVariables false
open Go.ChangeShapes Go.WideShapes Go.ChangeAt Go.RowKit

/-- a suffix of an inference -/
def sufB (s : Str) : Bool := [46].isPrefixOf s && (decide (s.length ≤ 10) && (good (s.drop 1) && !((s.drop 1).contains 46 || (s.drop 1).contains 47)))
theorem sufB_no {s : Str} (h : [46].isPrefixOf s = false) : sufB s = false := by unfold sufB; rw [h]; rfl
theorem sufB_cons (r : Str) : sufB (46 :: r) = (decide (r.length + 1 ≤ 10) && (good r && !(r.contains 46 || r.contains 47))) := by
  unfold sufB
  simp [List.isPrefixOf]
theorem pre_cases (x : Str) : [46].isPrefixOf x = false ∨ ∃ r, x = (46 : UInt8) :: r := by
  cases x with
  | nil => exact .inl rfl
  | cons c r =>
    by_cases h : (46 : UInt8) = c
    · subst h; exact .inr ⟨r, rfl⟩
    · left; simp [List.isPrefixOf, h]
theorem good_low {x : Str} (h : good x = true) : ∀ c ∈ x, c.toNat < 128 := fun c hc => by
  unfold good at h
  rw [Bool.and_eq_true, List.all_eq_true] at h
  have := h.2 c hc
  unfold okB at this
  rw [decide_eq_true_iff] at this
  omega
set_option maxHeartbeats 1000000 in
theorem suf_any (x : Str) (w : World) (hx : x.length ≤ 9223372036854775807) :
    Calls Tryz.prog 51 #[.string (bs x)] w fun e w' => e = .returned (.bool (sufB x)) ∧ Below w.heap.size w w' := by
  have PR := Lib.hid (pre_any x 46 w)
  rcases pre_cases x with hp | ⟨r, rfl⟩
  · have HP := Lib.hid (sufB_no hp)
    have P0 := Lib.hid hp
    clear hp hx
    go_enter Tryz.func51, Tryz.ntmps51
    go_wp2_with fail
    refine PR.out.mono ?_
    rintro e w1 ⟨rfl, ⟨_, rfl⟩ | ⟨r, hr, rfl⟩⟩
    · go_wp2
      go_ret
      exact ⟨by rw [HP.out]; rfl, Below.refl _ _⟩
    · rw [hr] at P0; exact absurd P0.out (by simp [List.isPrefixOf])
  · have SC := Lib.hid (sufB_cons r)
    rw [List.length_cons] at hx
    by_cases h10 : r.length + 1 ≤ 10
    · have d10 : decide (((bs (46 :: r)).size : Int) ≤ 10) = true := decide_eq_true (by rw [bs_size, List.length_cons]; omega)
      have CK := Lib.hid (check_any (bs r) w (by rw [bs_size]; omega))
      rw [bs_list] at CK
      cases hg : good r
      · rw [hg] at CK SC
        have SN : Hid (sufB (46 :: r) = false) := Lib.hid (by rw [SC.out]; simp)
        clear hx hg SC h10
        generalize bs (46 :: r) = X at *
        go_enter Tryz.func51, Tryz.ntmps51
        go_wp2_with fail
        refine PR.out.mono ?_
        rintro e w1 ⟨rfl, ⟨h, _⟩ | ⟨r2, hr, rfl⟩⟩
        · exact absurd h (by simp [List.isPrefixOf])
        injection hr with _ hr; subst hr
        go_wp2_with fail
        refine CK.out.mono ?_
        rintro e w2 ⟨rfl, rfl⟩
        have e3 : errOf false = 3 := rfl
        rw [e3]
        go_wp2
        go_ret
        exact ⟨by rw [SN.out]; rfl, Below.refl _ _⟩
      · rw [hg] at CK SC
        have CA := Lib.hid (Tryz.strings_ContainsAny_laid (bs r) ⟨#[46, 47]⟩ w (by rw [bs_size]; omega) (by decide) (fun j b hb => good_low hg b (List.mem_of_getElem? hb)) (fun j b hb => by
          have := List.mem_of_getElem? hb
          have key : ∀ b ∈ [(46 : UInt8), 47], b.toNat < 128 := by decide
          exact key b this))
        rw [bs_list, any_two] at CA
        have SN : Hid (sufB (46 :: r) = !(r.contains 46 || r.contains 47)) := Lib.hid (by rw [SC.out, decide_eq_true h10]; rfl)
        clear hx hg SC h10
        generalize bs (46 :: r) = X at *
        go_enter Tryz.func51, Tryz.ntmps51
        go_wp2_with fail
        refine PR.out.mono ?_
        rintro e w1 ⟨rfl, ⟨h, _⟩ | ⟨r2, hr, rfl⟩⟩
        · exact absurd h (by simp [List.isPrefixOf])
        injection hr with _ hr; subst hr
        go_wp2_with fail
        refine CK.out.mono ?_
        rintro e w2 ⟨rfl, rfl⟩
        have e3 : errOf true = 0 := rfl
        rw [e3]
        go_wp2_with fail
        refine CA.out.mono ?_
        rintro e w2 ⟨rfl, hb⟩
        have B := Lib.hid hb
        generalize (r.contains 46 || r.contains 47) = q at *
        clear hb CA
        go_wp2
        go_ret
        exact ⟨by rw [SN.out]; rfl, B.out⟩
    · have d10 : decide (((bs (46 :: r)).size : Int) ≤ 10) = false := decide_eq_false (by rw [bs_size, List.length_cons]; omega)
      have SN : Hid (sufB (46 :: r) = false) := Lib.hid (by rw [SC.out, decide_eq_false h10]; rfl)
      clear hx SC h10
      generalize bs (46 :: r) = X at *
      go_enter Tryz.func51, Tryz.ntmps51
      go_wp2_with fail
      refine PR.out.mono ?_
      rintro e w1 ⟨rfl, ⟨h, _⟩ | ⟨r2, hr, rfl⟩⟩
      · exact absurd h (by simp [List.isPrefixOf])
      injection hr with _ hr; subst hr
      go_wp2
      go_ret
      exact ⟨by rw [SN.out]; rfl, Below.refl _ _⟩

/-! the inferences' own fault -/
def stepE (p : List Mc) (x y : Str) : Int := if sufB x = false ∨ sufB y = false then 3 else if x = y ∨ (x, y) ∈ p then 6 else 0
/-- the first fault of the first k -/
def goE (l : List Mc) : Nat → Int
  | 0 => 0
  | k + 1 => if goE l k = 0 then stepE (l.take k) (nm l k) (vl l k) else goE l k
def infE (l : List Mc) : Int := if 20 < l.length then 2 else goE l l.length
theorem goE_step {l : List Mc} {k : Nat} (h : goE l k = 0) : goE l (k + 1) = stepE (l.take k) (nm l k) (vl l k) := by rw [goE, if_pos h]
theorem goE_stay {l : List Mc} {k : Nat} (h : goE l k ≠ 0) : ∀ m, goE l (k + m) = goE l k
  | 0 => rfl
  | m + 1 => by
    have ih := goE_stay h m
    show goE l (k + m + 1) = _
    rw [goE, if_neg (by rw [ih]; exact h), ih]
theorem infE_large {l : List Mc} (h : 20 < l.length) : infE l = 2 := by unfold infE; rw [if_pos h]
theorem infE_bad {l : List Mc} {k : Nat} (hl : l.length ≤ 20) (hk : k < l.length) (h : goE l k = 0) (hb : stepE (l.take k) (nm l k) (vl l k) ≠ 0) : infE l = stepE (l.take k) (nm l k) (vl l k) := by
  unfold infE
  rw [if_neg (by omega)]
  have h1 := goE_step h
  obtain ⟨m, hm⟩ : ∃ m, l.length = k + 1 + m := ⟨l.length - (k + 1), by omega⟩
  rw [hm, goE_stay (by rw [h1]; exact hb), h1]
theorem infE_ok {l : List Mc} (hl : l.length ≤ 20) (h : goE l l.length = 0) : infE l = 0 := by unfold infE; rw [if_neg (by omega), h]
theorem stepE_suf {p : List Mc} {x y : Str} (h : sufB x = false ∨ sufB y = false) : stepE p x y = 3 := by unfold stepE; rw [if_pos h]
theorem stepE_two {p : List Mc} {x y : Str} (h1 : sufB x = true) (h2 : sufB y = true) (h : x = y ∨ (x, y) ∈ p) : stepE p x y = 6 := by unfold stepE; rw [if_neg (by simp [h1, h2]), if_pos h]
theorem stepE_ok {p : List Mc} {x y : Str} (h1 : sufB x = true) (h2 : sufB y = true) (h : ¬ (x = y ∨ (x, y) ∈ p)) : stepE p x y = 0 := by unfold stepE; rw [if_neg (by simp [h1, h2]), if_neg h]
theorem goE_sufs {l : List Mc} : ∀ {k : Nat}, goE l k = 0 → ∀ j, j < k → sufB (nm l j) = true ∧ sufB (vl l j) = true
  | 0, _, j, hj => absurd hj (Nat.not_lt_zero _)
  | k + 1, h, j, hj => by
    have h0 : goE l k = 0 := by
      rw [goE] at h
      split at h
      · assumption
      · exact h
    rcases Nat.lt_succ_iff_lt_or_eq.1 hj with h' | rfl
    · exact goE_sufs h0 j h'
    · rw [goE_step h0] at h
      cases h1 : sufB (nm l j)
      · rw [stepE_suf (.inl h1)] at h; cases h
      · cases h2 : sufB (vl l j)
        · rw [stepE_suf (.inr h2)] at h; cases h
        · exact ⟨rfl, rfl⟩
theorem infE_zero {l : List Mc} (h : infE l = 0) : l.length ≤ 20 ∧ goE l l.length = 0 := by
  unfold infE at h
  split at h
  · cases h
  · exact ⟨by omega, h⟩
/-- without a fault each of them has a suffix of at most 10 bytes at both places -/
theorem infE_sufs {l : List Mc} (h : infE l = 0) : ∀ j, j < l.length → sufB (nm l j) = true ∧ sufB (vl l j) = true := goE_sufs (infE_zero h).2
theorem sufB_len {s : Str} (h : sufB s = true) : s.length ≤ 10 := by
  unfold sufB at h
  simp only [Bool.and_eq_true, decide_eq_true_iff] at h
  exact h.2.1
theorem goE_take {l : List Mc} {n : Nat} : ∀ {k : Nat}, k ≤ n → n ≤ l.length → goE (l.take n) k = goE l k
  | 0, _, _ => rfl
  | k + 1, hk, hn => by
    have ih := goE_take (l := l) (n := n) (k := k) (by omega) hn
    have e1 : (l.take n).take k = l.take k := by rw [List.take_take]; congr 1; omega
    have e2 : (l.take n).getD k ([], []) = l.getD k ([], []) := by
      rw [List.getD, List.getD, List.getElem?_take_of_lt (by omega)]
    rw [goE, goE, ih, e1]
    unfold nm vl
    rw [e2]
/-- the first ones of inferences without a fault have none -/
theorem infE_take {l : List Mc} (h : infE l = 0) (n : Nat) : infE (l.take n) = 0 := by
  obtain ⟨h1, h2⟩ := infE_zero h
  rcases Nat.lt_or_ge l.length n with h' | h'
  · rw [List.take_of_length_le (by omega)]; exact h
  · refine infE_ok (by rw [List.length_take]; omega) ?_
    rw [List.length_take, Nat.min_eq_left h', goE_take (Nat.le_refl _) h']
    have key : ∀ m k, k + m = l.length → goE l k = 0 := fun m k hm => by
      rcases Classical.em (goE l k = 0) with h | hne
      · exact h
      · have := goE_stay hne m
        rw [hm, h2] at this
        exact absurd this.symm hne
    exact key (l.length - n) n (by omega)
/-! the same in any order: a fault-free list is one of different good pairs -/
theorem goE_zero_iff {l : List Mc} : ∀ {k : Nat}, goE l k = 0 ↔ ∀ j, j < k → stepE (l.take j) (nm l j) (vl l j) = 0
  | 0 => ⟨fun _ j hj => absurd hj (Nat.not_lt_zero _), fun _ => rfl⟩
  | k + 1 => by
    constructor
    · intro h j hj
      have h0 : goE l k = 0 := by
        rw [goE] at h
        split at h
        · assumption
        · exact h
      rcases Nat.lt_succ_iff_lt_or_eq.1 hj with h' | rfl
      · exact (goE_zero_iff.1 h0) j h'
      · rw [← goE_step h0]; exact h
    · intro h
      have h0 : goE l k = 0 := goE_zero_iff.2 fun j hj => h j (by omega)
      rw [goE_step h0]
      exact h k (by omega)
theorem infE_drop {l : List Mc} (h : infE l = 0) (n : Nat) : infE (l.drop n) = 0 := by
  obtain ⟨h1, h2⟩ := infE_zero h
  refine infE_ok (by rw [List.length_drop]; omega) ?_
  rw [goE_zero_iff] at h2 ⊢
  intro j hj
  rw [List.length_drop] at hj
  have := h2 (n + j) (by omega)
  have e : (l.drop n).getD j ([], []) = l.getD (n + j) ([], []) := by rw [List.getD, List.getD, List.getElem?_drop]
  have e1 : nm (l.drop n) j = nm l (n + j) := by unfold nm; rw [e]
  have e2 : vl (l.drop n) j = vl l (n + j) := by unfold vl; rw [e]
  rw [e1, e2]
  obtain ⟨s1, s2⟩ := goE_sufs (goE_zero_iff.2 h2) (n + j) (by omega)
  by_cases hq : nm l (n + j) = vl l (n + j) ∨ (nm l (n + j), vl l (n + j)) ∈ (l.drop n).take j
  · rw [stepE_two s1 s2] at this
    · cases this
    · refine hq.imp id fun hm => ?_
      rw [List.take_drop] at hm
      exact List.mem_of_mem_drop hm
  · exact stepE_ok s1 s2 hq
/-! slices.Contains at inferences -/
end Go.Proofs.YtebjofffijnihaaGreatDoor
namespace Go.Proofs.YtebjofffijnihaaGreatDoor
set_option maxRecDepth 100000
set_option linter.unusedVariables false
open Go.ChangeShapes Go.WideShapes Go.ChangeAt Go.RowKit

/-- a slice of inferences -/
def IIn (w : World) (v : Value) (l : List Mc) : Prop := McIn w v l ∧ ∀ k, k < l.length → (nm l k).length ≤ maxLen ∧ (vl l k).length ≤ maxLen
theorem IIn.later {w w' : World} {v : Value} {l : List Mc} (h : IIn w v l) (hb : Below w.heap.size w w') : IIn w' v l := ⟨h.1.later hb, h.2⟩
theorem mc_take {w : World} {a : Option Addr} {n cap k : Nat} {l : List Mc} (h : McIn w (.slice a n cap) l) (hk : k ≤ l.length) : McIn w (.slice a k cap) (l.take k) := by
  obtain ⟨a', cap', he, h2, h3, h4, h5⟩ := h
  injection he with e1 e2 e3
  subst e1 e3
  have hl : (l.take k).length = k := by rw [List.length_take]; omega
  refine ⟨a, cap, by rw [hl], by rw [hl]; omega, h3, by rw [hl]; omega, ?_⟩
  rcases h5 with h5 | ⟨b, off, h5, h6, h7⟩
  · left; rw [h5]; exact List.take_nil
  · refine .inr ⟨b, off, h5, h6, fun j x hj => h7 j x ?_⟩
    have hj' : j < k := by
      rcases Nat.lt_or_ge j k with h' | h'
      · exact h'
      · rw [List.getElem?_eq_none (by rw [hl]; exact h')] at hj; cases hj
    rw [List.getElem?_take_of_lt hj'] at hj
    exact hj
set_option maxHeartbeats 4000000 in
theorem icheck_any {w : World} {v : Value} {l : List Mc} (h : IIn w v l) :
    Calls Tryz.prog 29 #[v] w fun e w' => e = .returned (.int .i64 (infE l)) ∧ Below w.heap.size w w' := by
  have HM := Lib.hid h.1
  have HS := Lib.hid h.2
  have hb := show l.length ≤ 8796093022208 by obtain ⟨⟨_, _, _, _, _, h4, _⟩, _⟩ := h; exact h4
  by_cases hL : 20 < l.length
  · have E := Lib.hid (infE_large hL)
    obtain ⟨⟨a, cap, rfl, _⟩, _⟩ := h
    clear HM HS
    generalize l.length = L at *
    go_enter Tryz.func29, Tryz.ntmps29
    go_wp2
    go_ret
    exact ⟨by rw [E.out]; rfl, Below.refl _ _⟩
  have HL : l.length ≤ 20 := by omega
  clear hL hb
  have EB : Hid (∀ k, k < l.length → goE l k = 0 → ∀ E, stepE (l.take k) (nm l k) (vl l k) = E → E ≠ 0 → infE l = E) := fun k hk h0 E hE hne => by subst hE; exact infE_bad HL hk h0 hne
  have EO : Hid (goE l l.length = 0 → infE l = 0) := fun h0 => infE_ok HL h0
  have ES : Hid (∀ k, k < l.length → goE l k = 0 → goE l (k + 1) = stepE (l.take k) (nm l k) (vl l k)) := fun k hk h0 => goE_step h0
  obtain ⟨⟨a, cap, rfl, hcap, _, _, h5⟩, _⟩ := h
  have HC : Hid (∀ W, Below w.heap.size w W → ∀ k, k < l.length → ∃ b off, a = some ⟨b, off, none⟩ ∧ W.cell? ⟨b, off + k * 2, none⟩ = some (.string (bs (nm l k))) ∧ W.cell? ⟨b, off + k * 2 + 1, none⟩ = some (.string (bs (vl l k)))) := fun W hW k hk => by
    rcases h5 with rfl | ⟨b, off, ha, hlt, hc⟩
    · exact absurd hk (Nat.not_lt_zero _)
    · have := hc k _ (at_some hk)
      exact ⟨b, off, ha, cell_later hW this.1, cell_later hW this.2⟩
  clear h5
  have TK : Hid (∀ W, Below w.heap.size w W → ∀ k, k ≤ l.length → McIn W (.slice a k cap) (l.take k)) := fun W hW k hk => mc_take (HM.out.later hW) hk
  generalize eL : l.length = L at *
  clear HM eL
  go_enter Tryz.func29, Tryz.ntmps29
  go_wp2_with fail
  go_loopw [10] (fun i wr => ∃ k : Nat, k ≤ L ∧ i = .int .i64 (k : Int) ∧ goE l k = 0 ∧ Below w.heap.size w wr) (fun i _ => L - (intOf i).toNat)
  case atStart => exact ⟨0, Nat.zero_le _, rfl, rfl, Below.refl _ _⟩
  case round =>
    obtain ⟨k, hk, rfl, h0, qb⟩ := hrel
    have H0 := Lib.hid h0; have QB := Lib.hid qb; clear h0 qb
    by_cases hkl : k < L
    · obtain ⟨b, off, rfl, c0, c1⟩ := HC.out wr QB.out k hkl
      have B1 := Lib.hid (EB.out k hkl H0.out)
      have S1 := Lib.hid (ES.out k hkl H0.out)
      obtain ⟨l1, l2⟩ := HS.out k hkl
      have F1 := Lib.hid (fun W => suf_any (nm l k) W (by unfold maxLen at l1; omega))
      have F2 := Lib.hid (fun W => suf_any (vl l k) W (by unfold maxLen at l2; omega))
      have T1 : Hid (∀ W, Below w.heap.size w W → Calls Tryz.prog 52 #[.slice (some ⟨b, off, none⟩) k cap, .agg #[.string (bs (nm l k)), .string (bs (vl l k))]] W fun e w' => e = .returned (.bool ((l.take k).contains (nm l k, vl l k))) ∧ Below W.heap.size W w') := fun W hW => conI_any (l.take k) _ _ _ W (TK.out W hW k (by omega))
      have CD : Hid ((l.take k).contains (nm l k, vl l k) = true ↔ (nm l k, vl l k) ∈ l.take k) := List.contains_iff_mem
      generalize nm l k = x at *
      generalize vl l k = y at *
      generalize l.take k = P at *
      generalize P.contains (x, y) = q at *
      clear l1 l2
      have K0 := Lib.hid (blk_new wr #[.string (bs x), .string (bs y)] 96)
      have WA : Hid (Below w.heap.size w (wr.alloc (.cells #[.string (bs x), .string (bs y)] 96))) := QB.out.alloc QB.out.size _
      have d0 := K0.out.cell (i := 0) rfl
      have d1 := K0.out.cell (i := 1) rfl
      go_wp2_with fail
      refine (F1.out _).mono ?_
      rintro e w2 ⟨rfl, b2⟩
      have B2 := Lib.hid (WA.out.trans (b2.mono WA.out.size))
      have K2 := Lib.hid (K0.out.later b2)
      clear b2 d0 d1 c0 c1
      obtain ⟨d0, d1⟩ := show _ ∧ _ from ⟨K2.out.cell (i := 0) rfl, K2.out.cell (i := 1) rfl⟩
      cases hx : sufB x
      · have E3 := Lib.hid (B1.out 3 (stepE_suf (.inl hx)) (by decide))
        clear hx
        go_wp2
        go_ret
        exact ⟨by rw [E3.out]; rfl, B2.out⟩
      · have HX := Lib.hid hx; clear hx
        go_wp2_with fail
        refine (F2.out _).mono ?_
        rintro e w3 ⟨rfl, b3⟩
        have B3 := Lib.hid (B2.out.trans (b3.mono B2.out.size))
        have K3 := Lib.hid (K2.out.later b3)
        clear b3 d0 d1
        obtain ⟨d0, d1⟩ := show _ ∧ _ from ⟨K3.out.cell (i := 0) rfl, K3.out.cell (i := 1) rfl⟩
        cases hy : sufB y
        · have E3 := Lib.hid (B1.out 3 (stepE_suf (.inr hy)) (by decide))
          clear hy
          go_wp2
          go_ret
          exact ⟨by rw [E3.out]; rfl, B3.out⟩
        · have HY := Lib.hid hy; clear hy
          by_cases hxy : x = y
          · have E6 := Lib.hid (B1.out 6 (stepE_two HX.out HY.out (.inl hxy)) (by decide))
            have e1 : ((bs x).toList == (bs y).toList) = true := by rw [bs_toList, bs_toList, beq_dec, decide_eq_true hxy]
            clear hxy
            go_wp2_with fail
            go_quiet (fail)
            go_wp2
            go_ret
            exact ⟨by rw [E6.out]; rfl, below_drewN B3.out _⟩
          · have e1 : ((bs x).toList == (bs y).toList) = false := by rw [bs_toList, bs_toList, beq_dec, decide_eq_false hxy]
            have NE := Lib.hid hxy; clear hxy
            have i1 : (0 : Int) ≤ (k : Int) := by omega
            have i2 : (k : Int) ≤ (L : Int) := by omega
            have i3 : (k : Int) ≤ (cap : Int) := by omega
            have SL : Hid (∀ W, Below w3.heap.size w3 W → W.cell? ⟨wr.heap.size, 0, none⟩ = some (.string (bs x)) ∧ W.cell? ⟨wr.heap.size, 1, none⟩ = some (.string (bs y))) := fun W hW => by
              have := K3.out.later hW
              exact ⟨this.cell (i := 0) rfl, this.cell (i := 1) rfl⟩
            go_wp2_with fail
            go_region_held3 (fun w' => w'.cell? ⟨wr.heap.size, 0, none⟩ = some (.string (bs x)) ∧ w'.cell? ⟨wr.heap.size, 1, none⟩ = some (.string (bs y))) (first | exact ⟨d0, d1⟩ | exact ⟨k0, k1⟩ | assumption | go_keep) (first
              | (go_at_call_of 52 (Value.slice (some ⟨b, off, none⟩) k cap)
                 refine (T1.out w3.drew B3.out.drew).mono ?_
                 rintro e w4 ⟨rfl, b4⟩
                 have B4 : Hid (Below w3.heap.size w3 w4) := (Below.refl _ _).drew.trans b4
                 obtain ⟨k0, k1⟩ := SL.out _ B4.out
                 clear b4))
            all_goals
              have B5 := Lib.hid (B3.out.trans (B4.out.mono B3.out.size))
              have C5 := Lib.hid CD.out
              clear CD T1
              cases hc : q
              · subst hc
                have NX : Hid (¬ (x = y ∨ (x, y) ∈ P)) := fun h => h.elim NE.out (fun h => by cases C5.out.2 h)
                go_wp2
                go_roundw
                case rel => exact ⟨k + 1, by omega, by go_num, by rw [S1.out]; exact stepE_ok HX.out HY.out NX.out, B5.out⟩
                case measure => simp [intOf]; omega
              · subst hc
                have E6 := Lib.hid (B1.out 6 (stepE_two HX.out HY.out (.inr (C5.out.1 rfl))) (by decide))
                go_wp2
                go_ret
                exact ⟨by rw [E6.out]; rfl, B5.out⟩
    · obtain rfl : k = L := by omega
      have E := Lib.hid (EO.out H0.out)
      go_wp2
      go_ret
      exact ⟨by rw [E.out]; rfl, QB.out⟩
end Go.Proofs.YtebjofffijnihaaGreatDoor
namespace Go.Proofs.YtebjofffijnihaaGreatDoor
open Go.Shelf
def lastL_ren : Ren := ⟨fun | 149 => 81 | 222 => 109 | n => n, fun | 9 => 9 | 5 => 5 | 3 => 3 | 4 => 4 | n => n, fun | n => n⟩
theorem lastL : Go.Proofs.Lays.n149 Tryz.prog lastL_ren :=
  {
    mixed := by kernel_rfl
    f149 := Tryz.func81.trans (congrArg some (by kernel_rfl))
    f222 := Tryz.func109.trans (congrArg some (by kernel_rfl))
    t3 := Tryz.underlying3
    a3 := Tryz.isAgg3
    z3 := Tryz.sizeOf3
    v3 := Tryz.zeroValue3
    t4 := Tryz.underlying4
    a4 := Tryz.isAgg4
    z4 := Tryz.sizeOf4
    v4 := Tryz.zeroValue4
    t5 := Tryz.underlying5
    a5 := Tryz.isAgg5
    z5 := Tryz.sizeOf5
    v5 := Tryz.zeroValue5
    t9 := Tryz.underlying9
    a9 := Tryz.isAgg9
    z9 := Tryz.sizeOf9
    v9 := Tryz.zeroValue9 }
end Go.Proofs.YtebjofffijnihaaGreatDoor
namespace Go.Proofs.YtebjofffijnihaaGreatDoor
set_option maxRecDepth 100000
open Go.ChangeShapes Go.WideShapes Go.ChangeAt Go.RowKit

theorem last_any (s : ByteArray) (c : Int) (hs : s.size < 4611686018427387904) (w : World) :
    Calls Tryz.prog 81 #[.string s, .int .u8 c] w fun e w' => e = .returned (.int .i64 (Lib.lastIndexByte s c)) ∧ w' = w :=
  Any.strings_LastIndexByte lastL s c hs w

/-- the name is cut at i -/
def Cut (s : ByteArray) (i : Nat) : Prop := 0 < i ∧ i < s.size ∧ byteAt s i = 46 ∧ byteAt s (i - 1) ≠ 47 ∧ ∀ j, i < j → j < s.size → byteAt s j ≠ 46 ∧ byteAt s j ≠ 47
theorem Cut.same {s : ByteArray} {i j : Nat} (h : Cut s i) (k : Cut s j) : i = j := by
  obtain ⟨_, h1, h2, _, h3⟩ := h
  obtain ⟨_, k1, k2, _, k3⟩ := k
  rcases Nat.lt_trichotomy i j with q | q | q
  · exact absurd k2 (h3 j q k1).1
  · exact q
  · exact absurd h2 (k3 i q h1).1

/-- the last of the bytes c: none, or where -/
theorem last_spec (s : ByteArray) (c : Nat) : (Lib.lastIndexByte s (c : Int) = -1 ∧ ∀ j, j < s.size → byteAt s j ≠ c) ∨
    ∃ i : Nat, i < s.size ∧ Lib.lastIndexByte s (c : Int) = i ∧ byteAt s i = c ∧ ∀ j, i < j → j < s.size → byteAt s j ≠ c := by
  rcases Lib.lastIndexByte_spec s (c : Int) with ⟨h1, h2⟩ | ⟨i, h1, h2, h3, h4⟩
  · exact .inl ⟨h1, fun j hj e => h2 j hj (by rw [bang_at s j hj, e])⟩
  · refine .inr ⟨i, h1, h2, ?_, fun j hj1 hj2 e => h4 j hj1 hj2 (by rw [bang_at s j hj2, e])⟩
    rw [bang_at s i h1] at h3; omega
theorem stem_cases (s : ByteArray) : (∃ i : Nat, Cut s i ∧ Lib.lastIndexByte s 46 = i ∧ Lib.lastIndexByte s 47 + 1 < i ∧ 0 ≤ Lib.lastIndexByte s 47 + 1) ∨
    (∀ i, ¬ Cut s i) ∧ Lib.lastIndexByte s 46 ≤ Lib.lastIndexByte s 47 + 1 ∧ 0 ≤ Lib.lastIndexByte s 47 + 1 ∧ Lib.lastIndexByte s 47 ≤ s.size := by
  have hd : (Lib.lastIndexByte s 46 = -1 ∧ ∀ j, j < s.size → byteAt s j ≠ 46) ∨ ∃ i : Nat, i < s.size ∧ Lib.lastIndexByte s 46 = i ∧ byteAt s i = 46 ∧ ∀ j, i < j → j < s.size → byteAt s j ≠ 46 := last_spec s 46
  have hl : (Lib.lastIndexByte s 47 = -1 ∧ ∀ j, j < s.size → byteAt s j ≠ 47) ∨ ∃ i : Nat, i < s.size ∧ Lib.lastIndexByte s 47 = i ∧ byteAt s i = 47 ∧ ∀ j, i < j → j < s.size → byteAt s j ≠ 47 := last_spec s 47
  rcases hd with ⟨d1, d2⟩ | ⟨d, d1, d2, d3, d4⟩
  · right
    refine ⟨fun i h => d2 i h.2.1 h.2.2.1, ?_⟩
    rcases hl with ⟨l1, _⟩ | ⟨l, l3, l2, _⟩
    · rw [d1, l1]; omega
    · rw [d1, l2]; omega
  · have cut_d : ∀ i, Cut s i → i = d := fun i h => by
      rcases Nat.lt_trichotomy i d with q | q | q
      · exact absurd d3 (h.2.2.2.2 d q d1).1
      · exact q
      · exact absurd h.2.2.1 (d4 i q h.2.1)
    rcases hl with ⟨l1, l2⟩ | ⟨l, l1, l2, l3, l4⟩
    · by_cases h0 : d = 0
      · right
        refine ⟨fun i h => ?_, by rw [d2, l1, h0]; omega⟩
        have := cut_d i h
        have := h.1
        omega
      · left
        exact ⟨d, ⟨by omega, d1, d3, l2 _ (by omega), fun j hj1 hj2 => ⟨d4 j hj1 hj2, l2 j hj2⟩⟩, d2, by rw [l1]; omega, by rw [l1]; omega⟩
    · by_cases h0 : l + 1 < d
      · left
        exact ⟨d, ⟨by omega, d1, d3, l4 _ (by omega) (by omega), fun j hj1 hj2 => ⟨d4 j hj1 hj2, l4 j (by omega) hj2⟩⟩, d2, by rw [l2]; omega, by rw [l2]; omega⟩
      · right
        refine ⟨fun i h => ?_, by rw [d2, l2]; omega⟩
        have e := cut_d i h
        subst e
        obtain ⟨h1, h2, h3, h4, h5⟩ := h
        by_cases q : i < l
        · exact (h5 l q l1).2 l3
        · have : l = i ∨ l = i - 1 := by omega
          rcases this with e | e
          · rw [e] at l3; omega
          · exact h4 (e ▸ l3)

/-- what Stem hands back -/
def StemPost (s : ByteArray) (e : Ending) : Prop :=
  (∃ i, Cut s i ∧ e = .returned (.tuple #[.string (s.extract 0 i), .string (s.extract i s.size)])) ∨ (∀ i, ¬ Cut s i) ∧ e = .returned (.tuple #[.string s, .string (ByteArray.mk #[])])

set_option maxHeartbeats 1000000 in
theorem stem_any (s : ByteArray) (hs : s.size < 4611686018427387904) (w : World) :
    Calls Tryz.prog 55 #[.string s] w fun e w' => StemPost s e ∧ ∃ q, w' = w.drewN q := by
  have HS := Lib.hid hs
  have SC := Lib.hid (stem_cases s)
  go_enter Tryz.func55, Tryz.ntmps55
  go_wp2_with fail
  refine (last_any s 46 HS.out _).mono ?_
  rintro e w' ⟨rfl, rfl⟩
  go_wp2_with fail
  refine (last_any s 47 HS.out _).mono ?_
  rintro e w' ⟨rfl, rfl⟩
  rcases SC.out with ⟨i, h1, h2, h3, h4⟩ | ⟨h1, h2, h3, h4⟩
  · have H1 := Lib.hid h1
    have hi := h1.2.1
    rw [h2]
    generalize Lib.lastIndexByte s 47 = q at h3 h4 ⊢
    clear h1 h2 SC
    go_wp2_with fail
    go_quiet (fail)
    go_wp2
    go_ret2
    exact ⟨.inl ⟨i, H1.out, rfl⟩, _, rfl⟩
  · have H1 := Lib.hid h1
    generalize Lib.lastIndexByte s 47 = q at h2 h3 h4 ⊢
    generalize Lib.lastIndexByte s 46 = p at h2 ⊢
    clear h1 SC
    go_wp2
    go_ret2
    exact ⟨.inr ⟨H1.out, rfl⟩, 0, rfl⟩

theorem no_cut_slash {s : ByteArray} {m : Nat} (hm : m < s.size) (h : byteAt s m = 47) (ha : ∀ j, m < j → j < s.size → byteAt s j ≠ 46 ∧ byteAt s j ≠ 47) : ∀ i, ¬ Cut s i := fun i ⟨_, h1, h2, _, h3⟩ => by
  rcases Nat.lt_trichotomy i m with q | q | q
  · exact (h3 m q hm).2 h
  · subst q; omega
  · exact (ha i q h1).1 h2
theorem no_cut_dot {s : ByteArray} {m : Nat} (hm : m < s.size) (h : byteAt s m = 46) (hp : byteAt s (m - 1) = 47) (ha : ∀ j, m < j → j < s.size → byteAt s j ≠ 46 ∧ byteAt s j ≠ 47) : ∀ i, ¬ Cut s i := fun i ⟨_, h1, h2, h4, h3⟩ => by
  rcases Nat.lt_trichotomy i m with q | q | q
  · exact (h3 m q hm).1 h
  · subst q; exact h4 hp
  · exact (ha i q h1).1 h2

end Go.Proofs.YtebjofffijnihaaGreatDoor
