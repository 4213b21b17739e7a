/-
  Package infer: isSuffix and Check. Condition: the strings have at most 2^63 - 1 bytes.
-/
import Derived.Test.YtihiohohocfchaaIBl
import Derived.Laws.StructEq
namespace Go.Proofs.Ytihiohohocfchaa
set_option maxRecDepth 100000
set_option linter.unusedVariables false
open Go.ChangeShapes Go.WideShapes Go.ChangeAt Go.RowKit

/-- a suffix of an inference -/
def sufB (s : Str) : Bool := [46].isPrefixOf s && (decide (s.length ≤ 10) && (good (s.drop 1) && !((s.drop 1).contains 46 || (s.drop 1).contains 47)))
theorem sufB_no {s : Str} (h : [46].isPrefixOf s = false) : sufB s = false := by unfold sufB; rw [h]; rfl
theorem sufB_cons (r : Str) : sufB (46 :: r) = (decide (r.length + 1 ≤ 10) && (good r && !(r.contains 46 || r.contains 47))) := by
  unfold sufB
  simp [List.isPrefixOf]
theorem pre_cases (x : Str) : [46].isPrefixOf x = false ∨ ∃ r, x = (46 : UInt8) :: r := by
  cases x with
  | nil => exact .inl rfl
  | cons c r =>
    by_cases h : (46 : UInt8) = c
    · subst h; exact .inr ⟨r, rfl⟩
    · left; simp [List.isPrefixOf, h]
theorem good_low {x : Str} (h : good x = true) : ∀ c ∈ x, c.toNat < 128 := fun c hc => by
  unfold good at h
  rw [Bool.and_eq_true, List.all_eq_true] at h
  have := h.2 c hc
  unfold okB at this
  rw [decide_eq_true_iff] at this
  omega
theorem any_two : ∀ (x : Str) (a b : UInt8), Lib.containsAny x [a, b] = (x.contains a || x.contains b) := by
  intro x a b
  unfold Lib.containsAny
  induction x with
  | nil => rfl
  | cons c r ih =>
    have hg := Lib.indexAny_ge [a, b] r
    have d1 : (c :: r).contains a = (a == c || r.contains a) := List.contains_cons
    have d2 : (c :: r).contains b = (b == c || r.contains b) := List.contains_cons
    rw [Lib.indexAny, d1, d2]
    by_cases ha : c = a
    · subst ha; simp
    · by_cases hb : c = b
      · subst hb; simp
      · have e1 : (a == c) = false := by simpa using fun e => ha e.symm
        have e2 : (b == c) = false := by simpa using fun e => hb e.symm
        rw [e1, e2, Bool.false_or, Bool.false_or, ← ih]
        by_cases h2 : Lib.indexAny r [a, b] = -1
        · rw [h2]; simp [ha, hb]
        · have e4 : (Lib.indexAny r [a, b] == -1) = false := by simpa using h2
          rw [Bool.eq_iff_iff, decide_eq_true_iff, decide_eq_true_iff]
          simp [ha, hb, e4]
          omega
set_option maxHeartbeats 1000000 in
theorem suf_any (x : Str) (w : World) (hx : x.length ≤ 9223372036854775807) :
    Calls Try.prog 36 #[.string (bs x)] w fun e w' => e = .returned (.bool (sufB x)) ∧ Below w.heap.size w w' := by
  have PR := Lib.hid (pre_any x 46 w)
  rcases pre_cases x with hp | ⟨r, rfl⟩
  · have HP := Lib.hid (sufB_no hp)
    have P0 := Lib.hid hp
    clear hp hx
    go_enter Try.func36, Try.ntmps36
    go_wp2_with fail
    refine PR.out.mono ?_
    rintro e w1 ⟨rfl, ⟨_, rfl⟩ | ⟨r, hr, rfl⟩⟩
    · go_wp2
      go_ret
      exact ⟨by rw [HP.out]; rfl, Below.refl _ _⟩
    · rw [hr] at P0; exact absurd P0.out (by simp [List.isPrefixOf])
  · have SC := Lib.hid (sufB_cons r)
    rw [List.length_cons] at hx
    by_cases h10 : r.length + 1 ≤ 10
    · have d10 : decide (((bs (46 :: r)).size : Int) ≤ 10) = true := decide_eq_true (by rw [bs_size, List.length_cons]; omega)
      have CK := Lib.hid (check_any (bs r) w (by rw [bs_size]; omega))
      rw [bs_list] at CK
      cases hg : good r
      · rw [hg] at CK SC
        have SN : Hid (sufB (46 :: r) = false) := Lib.hid (by rw [SC.out]; simp)
        clear hx hg SC h10
        generalize bs (46 :: r) = X at *
        go_enter Try.func36, Try.ntmps36
        go_wp2_with fail
        refine PR.out.mono ?_
        rintro e w1 ⟨rfl, ⟨h, _⟩ | ⟨r2, hr, rfl⟩⟩
        · exact absurd h (by simp [List.isPrefixOf])
        injection hr with _ hr; subst hr
        go_wp2_with fail
        refine CK.out.mono ?_
        rintro e w2 ⟨rfl, rfl⟩
        have e3 : errOf false = 3 := rfl
        rw [e3]
        go_wp2
        go_ret
        exact ⟨by rw [SN.out]; rfl, Below.refl _ _⟩
      · rw [hg] at CK SC
        have CA := Lib.hid (Try.strings_ContainsAny_laid (bs r) ⟨#[46, 47]⟩ w (by rw [bs_size]; omega) (by decide) (fun j b hb => good_low hg b (List.mem_of_getElem? hb)) (fun j b hb => by
          have := List.mem_of_getElem? hb
          have key : ∀ b ∈ [(46 : UInt8), 47], b.toNat < 128 := by decide
          exact key b this))
        rw [bs_list, any_two] at CA
        have SN : Hid (sufB (46 :: r) = !(r.contains 46 || r.contains 47)) := Lib.hid (by rw [SC.out, decide_eq_true h10]; rfl)
        clear hx hg SC h10
        generalize bs (46 :: r) = X at *
        go_enter Try.func36, Try.ntmps36
        go_wp2_with fail
        refine PR.out.mono ?_
        rintro e w1 ⟨rfl, ⟨h, _⟩ | ⟨r2, hr, rfl⟩⟩
        · exact absurd h (by simp [List.isPrefixOf])
        injection hr with _ hr; subst hr
        go_wp2_with fail
        refine CK.out.mono ?_
        rintro e w2 ⟨rfl, rfl⟩
        have e3 : errOf true = 0 := rfl
        rw [e3]
        go_wp2_with fail
        refine CA.out.mono ?_
        rintro e w2 ⟨rfl, hb⟩
        have B := Lib.hid hb
        generalize (r.contains 46 || r.contains 47) = q at *
        clear hb CA
        go_wp2
        go_ret
        exact ⟨by rw [SN.out]; rfl, B.out⟩
    · have d10 : decide (((bs (46 :: r)).size : Int) ≤ 10) = false := decide_eq_false (by rw [bs_size, List.length_cons]; omega)
      have SN : Hid (sufB (46 :: r) = false) := Lib.hid (by rw [SC.out, decide_eq_false h10]; rfl)
      clear hx SC h10
      generalize bs (46 :: r) = X at *
      go_enter Try.func36, Try.ntmps36
      go_wp2_with fail
      refine PR.out.mono ?_
      rintro e w1 ⟨rfl, ⟨h, _⟩ | ⟨r2, hr, rfl⟩⟩
      · exact absurd h (by simp [List.isPrefixOf])
      injection hr with _ hr; subst hr
      go_wp2
      go_ret
      exact ⟨by rw [SN.out]; rfl, Below.refl _ _⟩

/-! the inferences' own fault -/
def stepE (p : List Mc) (x y : Str) : Int := if sufB x = false ∨ sufB y = false then 3 else if x = y ∨ (x, y) ∈ p then 6 else 0
/-- the first fault of the first k -/
def goE (l : List Mc) : Nat → Int
  | 0 => 0
  | k + 1 => if goE l k = 0 then stepE (l.take k) (nm l k) (vl l k) else goE l k
def infE (l : List Mc) : Int := if 20 < l.length then 2 else goE l l.length
theorem goE_step {l : List Mc} {k : Nat} (h : goE l k = 0) : goE l (k + 1) = stepE (l.take k) (nm l k) (vl l k) := by rw [goE, if_pos h]
theorem goE_stay {l : List Mc} {k : Nat} (h : goE l k ≠ 0) : ∀ m, goE l (k + m) = goE l k
  | 0 => rfl
  | m + 1 => by
    have ih := goE_stay h m
    show goE l (k + m + 1) = _
    rw [goE, if_neg (by rw [ih]; exact h), ih]
theorem infE_large {l : List Mc} (h : 20 < l.length) : infE l = 2 := by unfold infE; rw [if_pos h]
theorem infE_bad {l : List Mc} {k : Nat} (hl : l.length ≤ 20) (hk : k < l.length) (h : goE l k = 0) (hb : stepE (l.take k) (nm l k) (vl l k) ≠ 0) : infE l = stepE (l.take k) (nm l k) (vl l k) := by
  unfold infE
  rw [if_neg (by omega)]
  have h1 := goE_step h
  obtain ⟨m, hm⟩ : ∃ m, l.length = k + 1 + m := ⟨l.length - (k + 1), by omega⟩
  rw [hm, goE_stay (by rw [h1]; exact hb), h1]
theorem infE_ok {l : List Mc} (hl : l.length ≤ 20) (h : goE l l.length = 0) : infE l = 0 := by unfold infE; rw [if_neg (by omega), h]
theorem stepE_suf {p : List Mc} {x y : Str} (h : sufB x = false ∨ sufB y = false) : stepE p x y = 3 := by unfold stepE; rw [if_pos h]
theorem stepE_two {p : List Mc} {x y : Str} (h1 : sufB x = true) (h2 : sufB y = true) (h : x = y ∨ (x, y) ∈ p) : stepE p x y = 6 := by unfold stepE; rw [if_neg (by simp [h1, h2]), if_pos h]
theorem stepE_ok {p : List Mc} {x y : Str} (h1 : sufB x = true) (h2 : sufB y = true) (h : ¬ (x = y ∨ (x, y) ∈ p)) : stepE p x y = 0 := by unfold stepE; rw [if_neg (by simp [h1, h2]), if_neg h]
theorem goE_sufs {l : List Mc} : ∀ {k : Nat}, goE l k = 0 → ∀ j, j < k → sufB (nm l j) = true ∧ sufB (vl l j) = true
  | 0, _, j, hj => absurd hj (Nat.not_lt_zero _)
  | k + 1, h, j, hj => by
    have h0 : goE l k = 0 := by
      rw [goE] at h
      split at h
      · assumption
      · exact h
    rcases Nat.lt_succ_iff_lt_or_eq.1 hj with h' | rfl
    · exact goE_sufs h0 j h'
    · rw [goE_step h0] at h
      cases h1 : sufB (nm l j)
      · rw [stepE_suf (.inl h1)] at h; cases h
      · cases h2 : sufB (vl l j)
        · rw [stepE_suf (.inr h2)] at h; cases h
        · exact ⟨rfl, rfl⟩
theorem infE_zero {l : List Mc} (h : infE l = 0) : l.length ≤ 20 ∧ goE l l.length = 0 := by
  unfold infE at h
  split at h
  · cases h
  · exact ⟨by omega, h⟩
/-- without a fault each of them has a suffix of at most 10 bytes at both places -/
theorem infE_sufs {l : List Mc} (h : infE l = 0) : ∀ j, j < l.length → sufB (nm l j) = true ∧ sufB (vl l j) = true := goE_sufs (infE_zero h).2
theorem sufB_len {s : Str} (h : sufB s = true) : s.length ≤ 10 := by
  unfold sufB at h
  simp only [Bool.and_eq_true, decide_eq_true_iff] at h
  exact h.2.1
theorem goE_take {l : List Mc} {n : Nat} : ∀ {k : Nat}, k ≤ n → n ≤ l.length → goE (l.take n) k = goE l k
  | 0, _, _ => rfl
  | k + 1, hk, hn => by
    have ih := goE_take (l := l) (n := n) (k := k) (by omega) hn
    have e1 : (l.take n).take k = l.take k := by rw [List.take_take]; congr 1; omega
    have e2 : (l.take n).getD k ([], []) = l.getD k ([], []) := by
      rw [List.getD, List.getD, List.getElem?_take_of_lt (by omega)]
    rw [goE, goE, ih, e1]
    unfold nm vl
    rw [e2]
/-- the first ones of inferences without a fault have none -/
theorem infE_take {l : List Mc} (h : infE l = 0) (n : Nat) : infE (l.take n) = 0 := by
  obtain ⟨h1, h2⟩ := infE_zero h
  rcases Nat.lt_or_ge l.length n with h' | h'
  · rw [List.take_of_length_le (by omega)]; exact h
  · refine infE_ok (by rw [List.length_take]; omega) ?_
    rw [List.length_take, Nat.min_eq_left h', goE_take (Nat.le_refl _) h']
    have key : ∀ m k, k + m = l.length → goE l k = 0 := fun m k hm => by
      rcases Classical.em (goE l k = 0) with h | hne
      · exact h
      · have := goE_stay hne m
        rw [hm, h2] at this
        exact absurd this.symm hne
    exact key (l.length - n) n (by omega)
/-! the same in any order: a fault-free list is one of different good pairs -/
theorem goE_zero_iff {l : List Mc} : ∀ {k : Nat}, goE l k = 0 ↔ ∀ j, j < k → stepE (l.take j) (nm l j) (vl l j) = 0
  | 0 => ⟨fun _ j hj => absurd hj (Nat.not_lt_zero _), fun _ => rfl⟩
  | k + 1 => by
    constructor
    · intro h j hj
      have h0 : goE l k = 0 := by
        rw [goE] at h
        split at h
        · assumption
        · exact h
      rcases Nat.lt_succ_iff_lt_or_eq.1 hj with h' | rfl
      · exact (goE_zero_iff.1 h0) j h'
      · rw [← goE_step h0]; exact h
    · intro h
      have h0 : goE l k = 0 := goE_zero_iff.2 fun j hj => h j (by omega)
      rw [goE_step h0]
      exact h k (by omega)
theorem infE_drop {l : List Mc} (h : infE l = 0) (n : Nat) : infE (l.drop n) = 0 := by
  obtain ⟨h1, h2⟩ := infE_zero h
  refine infE_ok (by rw [List.length_drop]; omega) ?_
  rw [goE_zero_iff] at h2 ⊢
  intro j hj
  rw [List.length_drop] at hj
  have := h2 (n + j) (by omega)
  have e : (l.drop n).getD j ([], []) = l.getD (n + j) ([], []) := by rw [List.getD, List.getD, List.getElem?_drop]
  have e1 : nm (l.drop n) j = nm l (n + j) := by unfold nm; rw [e]
  have e2 : vl (l.drop n) j = vl l (n + j) := by unfold vl; rw [e]
  rw [e1, e2]
  obtain ⟨s1, s2⟩ := goE_sufs (goE_zero_iff.2 h2) (n + j) (by omega)
  by_cases hq : nm l (n + j) = vl l (n + j) ∨ (nm l (n + j), vl l (n + j)) ∈ (l.drop n).take j
  · rw [stepE_two s1 s2] at this
    · cases this
    · refine hq.imp id fun hm => ?_
      rw [List.take_drop] at hm
      exact List.mem_of_mem_drop hm
  · exact stepE_ok s1 s2 hq
/-! slices.Contains at inferences -/
theorem infoInf : (Try.prog.info? 47).map (fun i => (i.zero, i.size, i.bytes)) = some (some (.agg #[.string ByteArray.empty, .string ByteArray.empty]), 2, 32) := by kernel_rfl
set_option maxHeartbeats 4000000 in
theorem idxI_any (z : List Mc) (x y : Str) (v : Value) (w : World) (h : McIn w v z) :
    Calls Try.prog 57 #[v, .agg #[.string (bs x), .string (bs y)]] w fun e w' => (∃ i : Int, e = .returned (.int .i64 i) ∧ decide (0 ≤ i) = z.contains (x, y)) ∧ Below w.heap.size w w' := by
  have hn : z.length ≤ 8796093022208 := by obtain ⟨_, _, _, _, _, h4, _⟩ := h; exact h4
  have BA : Hid (Below w.heap.size w (w.alloc (.cells #[.string (bs x), .string (bs y)] 47))) := (Below.refl _ _).alloc (Nat.le_refl _) _
  have hA := h.later BA.out
  have b0 := blk_new w #[.string (bs x), .string (bs y)] 47
  rcases hA.open with ⟨rfl, a, cap, rfl⟩ | ⟨hp, b, off, cap, rfl, hcap, hlt, hc⟩
  · clear h hA b0
    go_enter Try.func57, Try.ntmps57
    go_wp2_with fail
    go_rounds 1
    go_ret
    exact ⟨⟨-1, rfl, rfl⟩, BA.out⟩
  · have d1 := b0.cell (i := 0) rfl
    have d2 := b0.cell (i := 1) rfl
    obtain ⟨W1, hW1⟩ : ∃ W1, W1 = w.alloc (.cells #[.string (bs x), .string (bs y)] 47) := ⟨_, rfl⟩
    rw [← hW1] at hc d1 d2 BA
    have D1 := Lib.hid d1; have D2 := Lib.hid d2
    have HC : Hid (∀ k, k < z.length → W1.cell? ⟨b, off + k * 2, none⟩ = some (.string (bs (nm z k))) ∧ W1.cell? ⟨b, off + k * 2 + 1, none⟩ = some (.string (bs (vl z k)))) := fun k hk => hc k _ (at_some hk)
    have TK : Hid (∀ k, k < z.length → z.take (k + 1) = z.take k ++ [(nm z k, vl z k)]) := fun k hk => take_at hk
    have MM : Hid (∀ k, k < z.length → (nm z k, vl z k) ∈ z) := fun k hk => mem_at hk
    have TL := Lib.hid (List.take_length (l := z))
    have HW := Lib.hid hW1
    clear h hA b0 hc hlt d1 d2 hW1
    generalize nm z = f at *
    generalize vl z = g at *
    go_enter Try.func57, Try.ntmps57
    go_wp2_with fail
    rw [← HW.out]
    have d1 := D1.out
    have d2 := D2.out
    generalize w.heap.size = N at d1 d2 ⊢
    go_loopw [8] (fun i wr => ∃ k : Nat, k ≤ z.length ∧ i = .int .i64 k ∧ (x, y) ∉ z.take k ∧ ∃ m, wr = W1.drewN m) (fun i _ => z.length - (intOf i).toNat)
    case atStart => exact ⟨0, Nat.zero_le _, rfl, by simp, 0, rfl⟩
    case round =>
      obtain ⟨k, hk, rfl, hno, m, rfl⟩ := hrel
      have NO := Lib.hid hno; clear hno
      by_cases hkl : k < z.length
      · obtain ⟨c1, c2⟩ := HC.out k hkl
        have T1 := Lib.hid (TK.out k hkl)
        have M1 := Lib.hid (MM.out k hkl)
        generalize f k = p at *
        generalize g k = q at *
        have e1 : ((bs x).toList == (bs p).toList) = decide (x = p) := by rw [bs_toList, bs_toList, beq_dec]
        have e2 : ((bs y).toList == (bs q).toList) = decide (y = q) := by rw [bs_toList, bs_toList, beq_dec]
        by_cases hx : x = p
        · rw [decide_eq_true hx] at e1
          by_cases hy : y = q
          · rw [decide_eq_true hy] at e2
            have IN : Hid (z.contains (x, y) = true) := by show _ = _; rw [List.contains_iff_mem, hx, hy]; exact M1.out
            clear hx hy
            go_wp2_with fail
            go_quiet (fail)
            go_wp2
            go_ret
            exact ⟨⟨k, rfl, by rw [IN.out]; exact decide_eq_true (by omega)⟩, below_drewN (below_drewN BA.out _) _⟩
          · rw [decide_eq_false hy] at e2
            have NX : Hid ((x, y) ∉ z.take k ++ [(p, q)]) := by
              intro hm
              rcases List.mem_append.1 hm with hm | hm
              · exact NO.out hm
              · rw [List.mem_singleton] at hm; injection hm with h1 h2; exact hy h2
            clear hx hy
            go_wp2_with fail
            go_quiet (fail)
            go_wp2
            go_roundw
            case rel => exact ⟨k + 1, by omega, by go_num, by rw [T1.out]; exact NX.out, _, rfl⟩
            case measure => simp [intOf]; omega
        · rw [decide_eq_false hx] at e1
          have NX : Hid ((x, y) ∉ z.take k ++ [(p, q)]) := by
            intro hm
            rcases List.mem_append.1 hm with hm | hm
            · exact NO.out hm
            · rw [List.mem_singleton] at hm; injection hm with h1 h2; exact hx h1
          clear hx
          go_wp2_with fail
          go_quiet (fail)
          go_wp2
          go_roundw
          case rel => exact ⟨k + 1, by omega, by go_num, by rw [T1.out]; exact NX.out, _, rfl⟩
          case measure => simp [intOf]; omega
      · obtain rfl : k = z.length := by omega
        have OUT : Hid (z.contains (x, y) = false) := by
          show _ = _
          have h := NO.out
          rw [TL.out] at h
          rw [← Bool.not_eq_true, List.contains_iff_mem]
          exact h
        go_wp2
        go_ret
        exact ⟨⟨-1, rfl, by rw [OUT.out]; rfl⟩, below_drewN BA.out _⟩
set_option maxHeartbeats 4000000 in
theorem conI_any (z : List Mc) (x y : Str) (v : Value) (w : World) (h : McIn w v z) :
    Calls Try.prog 37 #[v, .agg #[.string (bs x), .string (bs y)]] w fun e w' => e = .returned (.bool (z.contains (x, y))) ∧ Below w.heap.size w w' := by
  have BA : Hid (Below w.heap.size w (w.alloc (.cells #[.string (bs x), .string (bs y)] 47))) := (Below.refl _ _).alloc (Nat.le_refl _) _
  have b0 := blk_new w #[.string (bs x), .string (bs y)] 47
  have d1 := b0.cell (i := 0) rfl
  have d2 := b0.cell (i := 1) rfl
  have IX := Lib.hid (idxI_any z x y v _ (h.later BA.out))
  clear h b0
  go_enter Try.func37, Try.ntmps37
  go_wp2_with fail
  refine IX.out.mono ?_
  rintro e w1 ⟨⟨i, rfl, hi⟩, hb⟩
  have B1 : Hid (Below w.heap.size w w1) := BA.out.trans (hb.mono BA.out.size)
  have HI := Lib.hid hi
  clear hb hi IX d1 d2
  go_wp2
  go_ret
  exact ⟨by rw [← HI.out]; rfl, B1.out⟩
end Go.Proofs.Ytihiohohocfchaa
