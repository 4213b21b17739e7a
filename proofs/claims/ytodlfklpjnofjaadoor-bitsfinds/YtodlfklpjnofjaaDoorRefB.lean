/-
  What the document's answer (package millwrightref) reckons for SetOf, EvenSet and NextSub, in terms of words. No condition.
-/
import Derived.Test.YtodlfklpjnofjaaDoorRef
namespace Go.Proofs.YtodlfklpjnofjaaDoor
open Go.ChangeShapes Go.WideShapes Go.ChangeAt Go.RowKit

/-! SetOf -/
def SetOfPost (f : Nat → Int) (n : Nat) (w : World) (e : Ending) (w' : World) : Prop := w = w' ∧
  ((InRange f n ∧ e = .returned (.tuple #[.int .u64 (setTo f n).toNat, .bool true])) ∨ (¬ InRange f n ∧ e = .returned (.tuple #[.int .u64 0, .bool false])))
theorem or_one_in (S : Bv) (m : Nat) (h : S.getLsbD m = true) : S ||| one m = S := by
  apply bv_ext
  intro i hi
  rw [BitVec.getLsbD_or, one_bit m i hi]
  by_cases e : i = m
  · subst e; simp [h]
  · simp [e]

set_option maxHeartbeats 1000000 in
theorem setOf_row (n c b o : Nat) (f : Nat → Int) (w : World) (hn : n ≤ maxLen)
    (h1 : ∀ k, k < n → w.cell? ⟨b, o + k, none⟩ = some (.int .i64 (f k))) :
    Calls Tryd.prog 9 #[.slice (some ⟨b, o, none⟩) n c] w (SetOfPost f n w) := by
  unfold maxLen at hn
  have H1 := Lib.hid h1; clear h1
  go_enter Tryd.func9, Tryd.ntmps9
  go_wp2_with fail
  go_loop [4, 9] (fun v i => ∃ k : Nat, k ≤ n ∧ InRange f k ∧ v = .int .u64 (setTo f k).toNat ∧ i = .int .i64 k) (fun _ i => n - (intOf i).toNat)
  case atStart => exact ⟨0, Nat.zero_le _, fun _ h => absurd h (Nat.not_lt_zero _), rfl, rfl⟩
  case round =>
    obtain ⟨k, hk, hr, rfl, rfl⟩ := hrel
    have HR := Lib.hid hr; clear hr
    by_cases hlt : k < n
    · have hc := H1.out k hlt
      obtain ⟨v, hv⟩ : ∃ v, v = f k := ⟨_, rfl⟩
      rw [← hv] at hc
      have HV := Lib.hid hv; clear hv
      by_cases hneg : v < 0
      · go_wp2
        go_ret2
        refine ⟨rfl, .inr ⟨fun h => ?_, rfl⟩⟩
        have := (h k hlt).1
        rw [← HV.out] at this; omega
      · by_cases hge : 64 ≤ v
        · have h0 : 0 ≤ v := by omega
          have hd : decide (v < 0) = false := by rw [decide_eq_false_iff_not]; omega
          go_wp2
          go_ret2
          refine ⟨rfl, .inr ⟨fun h => ?_, rfl⟩⟩
          have := (h k hlt).2
          rw [← HV.out] at this; omega
        · obtain ⟨m, rfl⟩ := Int.eq_ofNat_of_zero_le (show 0 ≤ v by omega)
          have hm : m < 64 := by omega
          have hm' : (m : Int) < 64 := by omega
          have HR1 : InRange f (k + 1) := inRange_succ HR.out (by rw [← HV.out]; omega) (by rw [← HV.out]; exact hm')
          have HRR := Lib.hid HR1; clear HR1
          have hst : setTo f (k + 1) = setTo f k ||| one m := by show setTo f k ||| one (f k).toNat = _; rw [← HV.out]; simp
          have HST := Lib.hid hst; clear hst hneg hge
          generalize hS : setTo f k = S
          have HS := Lib.hid hS; clear hS
          cases hin : S.getLsbD m
          · have HIN := Lib.hid hin; clear hin
            go_wp2_with fail
            refine (in_nat S m _ hm false HIN.out).mono ?_
            rintro e w' ⟨rfl, rfl⟩
            go_wp2
            go_round
            case rel =>
              refine ⟨k + 1, by omega, HRR.out, ?_, by go_num⟩
              rw [plus_walk S m hm HIN.out, HST.out, HS.out]
            case measure => simp [intOf]; omega
          · have HIN := Lib.hid hin; clear hin
            go_wp2_with fail
            refine (in_nat S m _ hm true HIN.out).mono ?_
            rintro e w' ⟨rfl, rfl⟩
            go_wp2
            go_round
            case rel =>
              refine ⟨k + 1, by omega, HRR.out, ?_, by go_num⟩
              rw [HST.out, HS.out, or_one_in S m HIN.out]
            case measure => simp [intOf]; omega
    · obtain rfl : k = n := by omega
      go_wp2
      go_ret2
      exact ⟨rfl, .inl ⟨HR.out, rfl⟩⟩
theorem setOf_none (f : Nat → Int) (a : Option Addr) (c : Nat) (w : World) :
    Calls Tryd.prog 9 #[.slice a 0 c] w (SetOfPost f 0 w) := by
  go_enter Tryd.func9, Tryd.ntmps9
  go_wp2_with fail
  go_rounds 1
  go_ret2
  exact ⟨rfl, .inl ⟨fun _ h => absurd h (Nat.not_lt_zero _), rfl⟩⟩

/-! EvenSet -/
def evp (s : Bv) : Nat → Bool
  | 0 => false
  | k + 1 => (ev s).getLsbD k
theorem ev_step (s : Bv) (k : Nat) (hk : k < 64) : (ev s).getLsbD k = (evp s k ^^ s.getLsbD k) := by
  have h := congrArg (fun x : Bv => x.getLsbD k) (ev_back s)
  simp only [st, BitVec.getLsbD_xor, BitVec.getLsbD_shiftLeft] at h
  rw [← h]
  cases k with
  | zero => simp [evp]
  | succ k =>
    have : k < 64 := by omega
    simp [evp]
    cases (ev s).getLsbD (k + 1) <;> cases (ev s).getLsbD k <;> simp [hk]
theorem low_ev (x : Bv) (k : Nat) (hk : k < 64) : x &&& low (k + 1) = if x.getLsbD k then x &&& low k ||| one k else x &&& low k := by
  apply bv_ext
  intro i hi
  cases hx : x.getLsbD k
  · simp only [Bool.false_eq_true, if_false, BitVec.getLsbD_and, low_bit (k + 1) i hi, low_bit k i hi]
    by_cases e : i = k
    · subst e; simp [hx]
    · rw [Bool.eq_iff_iff]; simp; intro _; omega
  · simp only [if_true, BitVec.getLsbD_or, BitVec.getLsbD_and, low_bit (k + 1) i hi, low_bit k i hi, one_bit k i hi]
    by_cases e : i = k
    · subst e; simp [hx]
    · rw [Bool.eq_iff_iff]; simp [e]; intro _; omega
theorem low_full (x : Bv) : x &&& low 64 = x := by
  apply bv_ext
  intro i hi
  rw [BitVec.getLsbD_and, low_bit 64 i hi]; simp [hi]

set_option maxHeartbeats 1000000 in
theorem evenSet_any (s : Bv) (w : World) :
    Calls Tryd.prog 19 #[.int .u64 s.toNat] w fun e w' => e = .returned (.int .u64 (ev s).toNat) ∧ w = w' := by
  go_enter Tryd.func19, Tryd.ntmps19
  go_wp2_with fail
  go_loop [3, 4, 6] (fun out odd i => ∃ (k : Nat) (x : Bv) (b : Bool), k ≤ 64 ∧ x = ev s &&& low k ∧ b = evp s k ∧ out = .int .u64 x.toNat ∧ odd = .bool b ∧ i = .int .i64 k) (fun _ _ i => 64 - (intOf i).toNat)
  case atStart => exact ⟨0, 0#64, false, by omega, by apply bv_ext; intro i hi; rw [BitVec.getLsbD_and, low_bit 0 i hi]; simp, rfl, rfl, rfl, rfl⟩
  case round =>
    obtain ⟨k, x, b, hk, hx, hb, rfl, rfl, rfl⟩ := hrel
    have HX := Lib.hid hx; clear hx
    have HB := Lib.hid hb; clear hb
    by_cases hlt : k < 64
    · have hstep := ev_step s k hlt
      rw [← HB.out] at hstep
      have hlow := low_ev (ev s) k hlt
      have hbit : x.getLsbD k = false := by rw [HX.out, BitVec.getLsbD_and, low_bit k k hlt]; simp
      rw [← HX.out] at hlow
      have HBIT := Lib.hid hbit; clear hbit
      have hp : evp s (k + 1) = (ev s).getLsbD k := rfl
      have HP := Lib.hid hp; clear hp
      cases hs : s.getLsbD k <;> cases b
      all_goals
        rw [hs] at hstep
        simp at hstep
        rw [hstep] at hlow
        simp only [Bool.false_eq_true, if_false, if_true] at hlow
        have HS := Lib.hid hs; clear hs
        have HST := Lib.hid hstep; clear hstep
        have HL := Lib.hid hlow; clear hlow
        go_wp2_with fail
        refine (in_nat s k _ hlt _ HS.out).mono ?_
        rintro e w' ⟨rfl, rfl⟩
        go_wp2
        go_round
        case measure => simp [intOf]; omega
        case rel =>
          refine ⟨k + 1, _, _, by omega, HL.out.symm, (HP.out.trans HST.out).symm, ?_, rfl, by go_num⟩
          first
            | rfl
            | (rw [plus_walk x k hlt HBIT.out])
    · obtain rfl : k = 64 := by omega
      go_wp2
      go_ret
      refine ⟨ret_int ?_, rfl⟩
      rw [HX.out, low_full]

/-! NextSub -/
theorem next_unique {s t u v : Bv} (hu : NextOf s t u) (hv : NextOf s t v) : u = v := by
  rcases hu with ⟨rfl, h1⟩ | ⟨m, hm, cm, lm, rm⟩
  · rcases hv with ⟨rfl, _⟩ | ⟨n, hn, cn, _, _⟩
    · rfl
    · exact absurd cn (h1 n hn)
  · rcases hv with ⟨rfl, h2⟩ | ⟨n, hn, cn, ln, rn⟩
    · exact absurd cm (h2 m hm)
    · obtain rfl : m = n := by
        rcases Nat.lt_trichotomy m n with h | h | h
        · exact absurd cm (ln m h)
        · exact h
        · exact absurd cn (lm n h)
      exact bv_ext fun i hi => by rw [rm i hi, rn i hi]
theorem cand_iff (s t : Bv) (n : Nat) : Cand s t n ↔ s.getLsbD n = true ∧ t.getLsbD n = false ∧ (t &&& ~~~low n) &&& ~~~s = 0#64 := by
  unfold Cand
  refine and_congr_right fun h1 => and_congr_right fun h2 => ?_
  constructor
  · intro h
    apply bv_ext
    intro i hi
    rw [BitVec.getLsbD_and, BitVec.getLsbD_and, BitVec.getLsbD_not, BitVec.getLsbD_not, low_bit n i hi]
    cases ht : t.getLsbD i
    · simp
    · by_cases c : i < n
      · simp [c]
      · by_cases c2 : i = n
        · rw [c2, h2] at ht; cases ht
        · simp [h i (by omega) ht]
  · intro h j hj ht
    by_cases h64 : j < 64
    · have := congrArg (fun x : Bv => x.getLsbD j) h
      simp only [BitVec.getLsbD_and, BitVec.getLsbD_not, low_bit n j h64, ht] at this
      have c : ¬ j < n := by omega
      simp [h64, c] at this
      exact this
    · rw [bit_ge t (by omega)] at ht; cases ht
theorem raised_of (t : Bv) (n : Nat) : Raised t (t &&& ~~~low n ||| one n) n := fun i hi => by
  rw [BitVec.getLsbD_or, BitVec.getLsbD_and, BitVec.getLsbD_not, low_bit n i hi, one_bit n i hi]
  by_cases c1 : i < n
  · have : i ≠ n := by omega
    simp [c1, this]
  · by_cases c2 : i = n
    · simp [c2]
    · simp [c1, c2, hi]
theorem raised_ne {t u : Bv} {n : Nat} (h : Raised t u n) (hn : n < 64) : u ≠ 0#64 := fun e => by
  have := h n hn; rw [e] at this; simp at this

set_option maxHeartbeats 1000000 in
theorem nextSub_any (s t : Bv) (w : World) :
    Calls Tryd.prog 21 #[.int .u64 s.toNat, .int .u64 t.toNat] w (SubPost s t w) := by
  go_enter Tryd.func21, Tryd.ntmps21
  go_wp2_with fail
  go_loop [8] (fun i => ∃ k : Nat, k ≤ 64 ∧ (∀ j, j < k → ¬ Cand s t j) ∧ i = .int .i64 k) (fun i => 64 - (intOf i).toNat)
  case atStart => exact ⟨0, by omega, fun _ h => absurd h (Nat.not_lt_zero _), rfl⟩
  case round =>
    obtain ⟨k, hk, hno, rfl⟩ := hrel
    have HN := Lib.hid hno; clear hno
    have hgo : ¬ Cand s t k → ∀ j, j < k + 1 → ¬ Cand s t j := fun h j hj => by
      rcases Nat.lt_succ_iff_lt_or_eq.1 hj with h' | h'
      · exact HN.out j h'
      · rw [h']; exact h
    have HGO := Lib.hid hgo; clear hgo
    by_cases hlt : k < 64
    · cases hs : s.getLsbD k
      · have HC := Lib.hid (HGO.out fun h => by have := h.1; rw [hs] at this; cases this)
        have HS := Lib.hid hs; clear hs
        go_wp2_with fail
        refine (in_nat s k _ hlt _ HS.out).mono ?_
        rintro e w' ⟨rfl, rfl⟩
        go_wp2
        go_round
        case rel => exact ⟨k + 1, by omega, HC.out, by go_num⟩
        case measure => simp [intOf]; omega
      · have HS := Lib.hid hs; clear hs
        cases ht : t.getLsbD k
        · have HT := Lib.hid ht; clear ht
          have hiff := cand_iff s t k
          by_cases hz : (t &&& ~~~low k) &&& ~~~s = 0#64
          · have hc : Cand s t k := hiff.2 ⟨HS.out, HT.out, hz⟩
            have HC := Lib.hid hc; clear hc hiff
            have hb : (bits .andNot .u64 ((t &&& ~~~low k).toNat : Int) (s.toNat : Int) == 0) = true := by rw [bv_andNot]; exact (bv_zero_iff _).2 hz
            generalize hH : t &&& ~~~low k = H at hb
            have HH := Lib.hid hH; clear hH hz
            go_wp2_with fail
            refine (in_nat s k _ hlt _ HS.out).mono ?_
            rintro e w' ⟨rfl, rfl⟩
            go_wp2_with fail
            refine (in_nat t k _ hlt _ HT.out).mono ?_
            rintro e w' ⟨rfl, rfl⟩
            go_wp2_with fail
            refine (upto_any k _ (by omega)).mono ?_
            rintro e w' ⟨rfl, rfl⟩
            have he : bits .andNot .u64 (t.toNat : Int) ((low k).toNat : Int) = (H.toNat : Int) := by rw [bv_andNot, HH.out]
            go_wp2
            go_ret2
            have hbit : H.getLsbD k = false := by rw [← HH.out, BitVec.getLsbD_and, BitVec.getLsbD_not, low_bit k k hlt, HT.out]; simp
            have hr : Raised t (H ||| one k) k := by rw [← HH.out]; exact raised_of t k
            refine ⟨H ||| one k, .inr ⟨k, hlt, HC.out, HN.out, hr⟩, ?_, rfl⟩
            show Ending.returned (.tuple #[.int .u64 (IntKind.u64.wrap ((H.toNat : Int) + IntKind.u64.wrap (2 ^ k))), .bool true]) = _
            rw [plus_walk H k hlt hbit, bne_iff_ne.2 (raised_ne hr hlt)]
          · have hc : ¬ Cand s t k := fun h => hz (hiff.1 h).2.2
            have HC := Lib.hid (HGO.out hc); clear hc hiff
            have hb : (bits .andNot .u64 ((t &&& ~~~low k).toNat : Int) (s.toNat : Int) == 0) = false := by
              rw [bv_andNot]
              cases hcc : ((((t &&& ~~~low k) &&& ~~~s).toNat : Int) == 0)
              · rfl
              · exact absurd ((bv_zero_iff _).1 hcc) hz
            generalize hH : t &&& ~~~low k = H at hb
            have HH := Lib.hid hH; clear hH hz
            go_wp2_with fail
            refine (in_nat s k _ hlt _ HS.out).mono ?_
            rintro e w' ⟨rfl, rfl⟩
            go_wp2_with fail
            refine (in_nat t k _ hlt _ HT.out).mono ?_
            rintro e w' ⟨rfl, rfl⟩
            go_wp2_with fail
            refine (upto_any k _ (by omega)).mono ?_
            rintro e w' ⟨rfl, rfl⟩
            have he : bits .andNot .u64 (t.toNat : Int) ((low k).toNat : Int) = (H.toNat : Int) := by rw [bv_andNot, HH.out]
            go_wp2
            go_round
            case rel => exact ⟨k + 1, by omega, HC.out, by go_num⟩
            case measure => simp [intOf]; omega
        · have HC := Lib.hid (HGO.out fun h => by have := h.2.1; rw [ht] at this; cases this)
          have HT := Lib.hid ht; clear ht
          go_wp2_with fail
          refine (in_nat s k _ hlt _ HS.out).mono ?_
          rintro e w' ⟨rfl, rfl⟩
          go_wp2_with fail
          refine (in_nat t k _ hlt _ HT.out).mono ?_
          rintro e w' ⟨rfl, rfl⟩
          go_wp2
          go_round
          case rel => exact ⟨k + 1, by omega, HC.out, by go_num⟩
          case measure => simp [intOf]; omega
    · obtain rfl : k = 64 := by omega
      go_wp2
      go_ret2
      exact ⟨0#64, .inl ⟨rfl, HN.out⟩, rfl, rfl⟩
end Go.Proofs.YtodlfklpjnofjaaDoor
