/-
  Proved: repeated calls of Sub enumerate every subset exactly once, in increasing order (law BitsSubs answers true). No condition.
-/
import Derived.Test.YtodlfklpjnofjaaSets
namespace Go.Proofs.Ytodlfklpjnofjaa.bitsSubs
open Go.ChangeShapes Go.WideShapes Go.ChangeAt Go.RowKit
set_option linter.unusedVariables false

theorem own : ownKnob Try.prog.godebug = none := by kernel_rfl

/-! how many subsets of s come before t -/
def idx (s t : Bv) : Nat → Nat
  | 0 => 0
  | k + 1 => idx s t k + if s.getLsbD k && t.getLsbD k then 2 ^ cntTo s.getLsbD k else 0
theorem cnt_succ (p : Nat → Bool) (k : Nat) : cntTo p (k + 1) = cntTo p k + if p k then 1 else 0 := rfl
theorem idx_succ (s t : Bv) (k : Nat) : idx s t (k + 1) = idx s t k + if s.getLsbD k && t.getLsbD k then 2 ^ cntTo s.getLsbD k else 0 := rfl
theorem idx_lt (s t : Bv) : ∀ k, idx s t k < 2 ^ cntTo s.getLsbD k
  | 0 => by simp [idx, cntTo]
  | k + 1 => by
    have := idx_lt s t k
    rw [idx_succ, cnt_succ]
    cases hs : s.getLsbD k
    · simp; omega
    · cases ht : t.getLsbD k
      · simp [Nat.pow_succ]; omega
      · simp [Nat.pow_succ]; omega
theorem idx_full (s t : Bv) : ∀ k, (∀ i, i < k → s.getLsbD i = true → t.getLsbD i = true) → idx s t k + 1 = 2 ^ cntTo s.getLsbD k
  | 0, _ => by simp [idx, cntTo]
  | k + 1, h => by
    have := idx_full s t k fun i hi => h i (by omega)
    rw [idx_succ, cnt_succ]
    cases hs : s.getLsbD k
    · simp; omega
    · have ht := h k (by omega) hs
      simp [ht, Nat.pow_succ]; omega
theorem idx_none (s t : Bv) : ∀ k, (∀ i, i < k → t.getLsbD i = false) → idx s t k = 0
  | 0, _ => rfl
  | k + 1, h => by
    rw [idx_succ, idx_none s t k fun i hi => h i (by omega), h k (by omega)]; simp
theorem idx_above (s t u : Bv) (m : Nat) : ∀ d, m + d ≤ 64 → (∀ i, m ≤ i → i < 64 → u.getLsbD i = t.getLsbD i) → idx s u m = idx s t m + 1 → idx s u (m + d) = idx s t (m + d) + 1
  | 0, _, _, h => h
  | d + 1, hd, he, h => by
    have := idx_above s t u m d (by omega) he h
    show idx s u (m + d + 1) = idx s t (m + d + 1) + 1
    rw [idx_succ, idx_succ, he (m + d) (by omega) (by omega)]
    omega
/-- one step of the enumeration -/
theorem idx_next {s t u : Bv} (hts : t &&& ~~~s = 0#64) (h : NextOf s t u) (hu : u ≠ 0#64) : idx s u 64 = idx s t 64 + 1 := by
  rcases h with ⟨e, _⟩ | ⟨n, hn, hc, hmin, hr⟩
  · exact absurd e hu
  · have hin : ∀ i, i < 64 → t.getLsbD i = true → s.getLsbD i = true := fun i hi ht => by
      have := congrArg (fun x : Bv => x.getLsbD i) hts
      simp only [BitVec.getLsbD_and, BitVec.getLsbD_not, ht] at this
      simp [hi] at this; exact this
    have e1 : idx s t n + 1 = 2 ^ cntTo s.getLsbD n := idx_full s t n fun i hi hs => by
      cases ht : t.getLsbD i
      · exact absurd ⟨hs, ht, fun j _ hj => by
          by_cases h64 : j < 64
          · exact hin j h64 hj
          · rw [bit_ge t (by omega)] at hj; cases hj⟩ (hmin i hi)
      · rfl
    have e2 : idx s u n = 0 := idx_none s u n fun i hi => by rw [hr i (by omega), if_pos hi]
    have e3 : idx s u (n + 1) = idx s t (n + 1) + 1 := by
      rw [idx_succ, idx_succ, e2, hr n hn, hc.1, hc.2.1]; simp; omega
    have := idx_above s t u (n + 1) (64 - (n + 1)) (by omega) (fun i h1 h2 => by rw [hr i h2, if_neg (by omega), if_neg (by omega)]) e3
    rw [show n + 1 + (64 - (n + 1)) = 64 by omega] at this
    exact this
/-- the enumeration's end -/
theorem idx_end {s t : Bv} (hts : t &&& ~~~s = 0#64) (h : NextOf s t 0#64) : t = s ∧ idx s t 64 + 1 = 2 ^ cnt s := by
  have hin : ∀ i, i < 64 → t.getLsbD i = true → s.getLsbD i = true := fun i hi ht => by
    have := congrArg (fun x : Bv => x.getLsbD i) hts
    simp only [BitVec.getLsbD_and, BitVec.getLsbD_not, ht] at this
    simp [hi] at this; exact this
  have hno : ∀ n, n < 64 → ¬ Cand s t n := by
    rcases h with ⟨_, h⟩ | ⟨n, hn, _, _, hr⟩
    · exact h
    · have := hr n hn; simp at this
  have hall : ∀ i, i < 64 → s.getLsbD i = true → t.getLsbD i = true := fun i hi hs => by
    cases ht : t.getLsbD i
    · exact absurd ⟨hs, ht, fun j _ hj => by
        by_cases h64 : j < 64
        · exact hin j h64 hj
        · rw [bit_ge t (by omega)] at hj; cases hj⟩ (hno i hi)
    · rfl
  refine ⟨bv_ext fun i hi => ?_, idx_full s t 64 hall⟩
  cases hs : s.getLsbD i
  · cases ht : t.getLsbD i
    · rfl
    · have := hin i hi ht; rw [hs] at this; cases this
  · exact hall i hi hs

set_option maxHeartbeats 1000000 in
theorem walk (a0 : Int) (w0 : (Lit.int .u64 a0).wf = true) (w : World) :
    Calls Try.prog 4 #[.int .u64 a0] w fun e w' => e = .returned (.bool true) ∧ Grown w w' := by
  obtain ⟨s, rfl⟩ := word_of w0
  clear w0
  by_cases hc : 10 < cnt s
  · go_enter Try.func4, Try.ntmps4
    go_wp2_with fail
    refine (sets_true _).mono ?_
    rintro e w' ⟨rfl, hg⟩
    have HG := Lib.hid hg; clear hg
    go_wp2_with fail
    refine (count _ _).mono ?_
    rintro e w'' ⟨rfl, rfl⟩
    go_wp2
    go_ret
    exact ⟨rfl, HG.out⟩
  · go_enter Try.func4, Try.ntmps4
    go_wp2_with fail
    refine (sets_true _).mono ?_
    rintro e w' ⟨rfl, hg⟩
    have HG := Lib.hid hg; clear hg
    go_wp2_with fail
    refine (count _ _).mono ?_
    rintro e w'' ⟨rfl, rfl⟩
    go_wp2_with fail
    have hp : 2 ^ cnt s ≤ 1024 := Nat.pow_le_pow_right (n := 2) (by omega) (show cnt s ≤ 10 by omega)
    have HP := Lib.hid hp; clear hp
    go_loop [3, 4] (fun n v => ∃ t : Bv, t &&& ~~~s = 0#64 ∧ n = .int .i64 ((idx s t 64 + 1 : Nat) : Int) ∧ v = .int .u64 t.toNat) (fun n _ => (2048 - intOf n).toNat)
    case atStart => exact ⟨0#64, by simp, by rw [idx_none s _ 64 (fun i _ => by simp)]; rfl, rfl⟩
    case round =>
      obtain ⟨t, hts, rfl, rfl⟩ := hrel
      have hlt := idx_lt s t 64
      have hb : idx s t 64 + 1 ≤ 1024 := by have := HP.out; unfold cnt at this; omega
      have HT := Lib.hid hts; clear hts
      have HL := Lib.hid hlt; clear hlt
      obtain ⟨N, hN⟩ : ∃ N, N = idx s t 64 + 1 := ⟨_, rfl⟩
      rw [← hN] at hb ⊢
      have HN := Lib.hid hN; clear hN
      go_wp2_with fail
      refine (sub_any _ _ _).mono ?_
      rintro e w'' ⟨u, hu, rfl, rfl⟩
      have ho := next_order hu
      have HU := Lib.hid hu; clear hu
      rcases ho with ⟨h0, hx⟩ | ⟨h0, h1, h2, hx⟩
      · clear hx
        subst h0
        obtain ⟨he, hi⟩ := idx_end HT.out HU.out
        have h6 : ((N : Int) == wrap64 (2 ^ cnt s)) = true := by
          rw [← HN.out] at hi
          have e2 : (2 : Int) ^ cnt s = ((2 ^ cnt s : Nat) : Int) := by simp
          rw [beq_iff_eq, e2, ← hi]
          unfold wrap64; omega
        clear hi
        go_wp2_with fail
        refine (count _ _).mono ?_
        rintro e w'' ⟨rfl, rfl⟩
        go_wp2
        go_ret
        exact ⟨rfl, HG.out⟩
      · have h3 : bits .andNot .u64 (u.toNat : Int) (s.toNat : Int) = 0 := by rw [bv_andNot, h2]; rfl
        have h4 : (u != 0#64) = true := by rw [bne_iff_ne]; exact h0
        have h5 : (t.toNat : Int) < (u.toNat : Int) := by omega
        have H2 := Lib.hid h2
        have H0 := Lib.hid h0
        clear h0 h1 h2 hx
        go_wp2
        go_round
        case rel =>
          refine ⟨u, H2.out, ?_, rfl⟩
          rw [idx_next HT.out HU.out H0.out, ← HN.out]
          go_num
        case measure => simp [intOf]; omega

set_option maxRecDepth 100000 in
theorem lifted (os : Os) (started : os.Started) (H : Type) (enc : TypeId × Value → H) :
    ReturnsInHanded {} Try.checked os 4 .any (Rows.bitsSubsSpec.pre6 enc Try.prog Try.f4 Rows.bitsSubsRow.domain false) (Rows.bitsSubsSpec.post enc Try.prog Try.f4 false true false false) := by
  refine returnsInHanded_of_change (C := Try.checked) own started (by kernel_rfl) Try.func4
    (ChangeSpec.witness6 (enc := enc) (C := Try.checked) false ⟨#[], #[.int .u64 0], []⟩ 8 (by kernel_rfl) (by kernel_rfl) (by kernel_rfl) (by kernel_rfl)) ?_
  intro W base args ds gs before hval0 hW hcnd _
  have hval : ∀ (j : Nat) t v, Try.f4.params[j]? = some t → args[j]? = some v → Value.okWide Try.prog W .any base t v := hval0
  have hW' := hW
  obtain ⟨p, q, hA0, hV, rfl, hfz, hnd⟩ := hW
  have hA : DataW.TrodAll enc Try.prog W 0 (fun _ => true) true Try.f4.params.toList args.toList ds p := hA0
  rw [Try.params4] at hA hval
  obtain ⟨v0, vs0, d0, ds0, p0, q0, hargs, rfl, rfl, h0, r0⟩ := trodAll_cons hA
  obtain ⟨rfl, rfl, rfl⟩ := trodAll_nil r0
  obtain rfl : args = #[v0] := by cases args; simp_all
  obtain ⟨rfl, rfl⟩ := trodVars_none hV
  obtain ⟨a0, rfl, rfl, rfl, w0⟩ := open_int Try.underlying28 (hval 0 28 v0 rfl rfl) h0
  clear hA0 hval0
  simp only [List.append_nil] at hW'
  refine (walk a0 w0 W).mono fun e W' ⟨he, hg⟩ => ?_
  subst he
  exact ⟨_, rfl, post_of_same (pa := []) (pv := []) hW' (fun _ _ _ => (trodAll_cons_mk (shut_bool Try.underlying4 _) trodAll_mk0)) (fun sp _ => (trodAll_cons_mk (shut_int Try.underlying28 w0) trodAll_mk0)) (fun _ _ => rfl) rfl
    (hg.frame _) hg.2.1 (ok_one (by kernel_rfl) rfl (okWide_bool_mk Try.underlying4 _))⟩

theorem over : Rows.bitsSubsRow.holds Try.pinned (OpenSpec.ofChange Rows.bitsSubsSpec) :=
  OpenClaim.holds_of_wide 4 Try.f4 rfl rfl rfl rfl rfl rfl rfl ⟨rfl, rfl, rfl, rfl, rfl⟩ rfl rfl rfl rfl rfl (by kernel_rfl) Try.func4 (by kernel_rfl)
    (of_decide_eq_true (by kernel_rfl)) (by unfold Func.isWrapper; first | (rw [if_pos (by decide +kernel)]; kernel_rfl) | (rw [if_neg (by decide +kernel)]; exact ⟨rfl, rfl⟩))
    (fun os started H enc _ => lifted os started H enc)

theorem proved : Rows.BitsSubsSaid :=
  over
#print axioms proved
end Go.Proofs.Ytodlfklpjnofjaa.bitsSubs
