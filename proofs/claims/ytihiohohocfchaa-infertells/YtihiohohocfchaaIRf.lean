/-
  The reference's InferFault (with its closure) and Inferred. Condition: the strings have at most 2^62 bytes.
-/
import Derived.Test.YtihiohohocfchaaIOw
namespace Go.Proofs.Ytihiohohocfchaa
set_option maxRecDepth 100000
set_option linter.unusedVariables false
open Go.ChangeShapes Go.WideShapes Go.ChangeAt Go.RowKit

/-! a suffix, byte by byte -/
theorem okB_dot : okB 46 = true := by decide
theorem good_dot {r : Str} (h : r.length + 1 ≤ 10) (h0 : 0 < r.length) : good (46 :: r) = good r := by
  unfold good
  have e1 : decide (0 < (46 :: r).length ∧ (46 :: r).length ≤ 40) = true := decide_eq_true (by simp; omega)
  have e2 : decide (0 < r.length ∧ r.length ≤ 40) = true := decide_eq_true (by omega)
  have e3 : okB (46 : UInt8).toNat = true := okB_dot
  rw [e1, e2, List.all_cons, e3]; rfl
theorem sufB_short {s : Str} (h : s.length < 2) : sufB s = false := by
  match s, h with
  | [], _ => rfl
  | [c], _ =>
    by_cases hc : (46 : UInt8) = c
    · subst hc; decide
    · refine sufB_no ?_
      simp [List.isPrefixOf, hc]
  | _ :: _ :: _, h => exact absurd h (by simp)
theorem sufB_long {s : Str} (h : 10 < s.length) : sufB s = false := by
  cases hs : sufB s with
  | false => rfl
  | true => have := sufB_len hs; omega
theorem sufB_head {c : UInt8} {r : Str} (h : c.toNat ≠ 46) : sufB (c :: r) = false := by
  refine sufB_no ?_
  have : (46 : UInt8) ≠ c := fun e => h (by rw [← e]; rfl)
  simp [List.isPrefixOf, this]
theorem sufB_name {r : Str} (h : 2 ≤ (46 :: r).length) (h2 : (46 :: r).length ≤ 10) (hg : good (46 :: r) = false) : sufB (46 :: r) = false := by
  rw [List.length_cons] at h h2
  rw [good_dot (by omega) (by omega)] at hg
  rw [sufB_cons, hg]; simp
theorem sufB_yes {r : Str} (h : 2 ≤ (46 :: r).length) (h2 : (46 :: r).length ≤ 10) (hg : good (46 :: r) = true) (hn : ∀ c ∈ r, c.toNat ≠ 46 ∧ c.toNat ≠ 47) : sufB (46 :: r) = true := by
  rw [List.length_cons] at h h2
  rw [good_dot (by omega) (by omega)] at hg
  have n1 : r.contains 46 = false := by
    rw [← Bool.not_eq_true, List.contains_iff_mem]
    exact fun hm => (hn _ hm).1 rfl
  have n2 : r.contains 47 = false := by
    rw [← Bool.not_eq_true, List.contains_iff_mem]
    exact fun hm => (hn _ hm).2 rfl
  rw [sufB_cons, hg, n1, n2, decide_eq_true (by omega)]; rfl
theorem sufB_has {r : Str} {c : UInt8} (hc : c ∈ r) (h : c.toNat = 46 ∨ c.toNat = 47) : sufB (46 :: r) = false := by
  have : (r.contains 46 || r.contains 47) = true := by
    rw [Bool.or_eq_true, List.contains_iff_mem, List.contains_iff_mem]
    rcases h with h | h
    · left
      have : c = 46 := UInt8.toNat_inj.1 h
      rw [← this]; exact hc
    · right
      have : c = 47 := UInt8.toNat_inj.1 h
      rw [← this]; exact hc
  rw [sufB_cons, this]; simp
/-- what the closure looks at, in a byte array -/
structure Suf (X : ByteArray) (q : Bool) : Prop where
  short : X.size < 2 → q = false
  long : 10 < X.size → q = false
  head : 0 < X.size → byteAt X 0 ≠ 46 → q = false
  name : 2 ≤ X.size → X.size ≤ 10 → byteAt X 0 = 46 → good X.data.toList = false → q = false
  yes : 2 ≤ X.size → X.size ≤ 10 → byteAt X 0 = 46 → good X.data.toList = true → (∀ j, 1 ≤ j → j < X.size → byteAt X j ≠ 46 ∧ byteAt X j ≠ 47) → q = true
  has : ∀ j, byteAt X 0 = 46 → 1 ≤ j → j < X.size → (byteAt X j = 46 ∨ byteAt X j = 47) → q = false
theorem suf_facts (s : Str) : Suf (bs s) (sufB s) := by
  have hd : ∀ {c : UInt8} {r : Str}, byteAt (bs (c :: r)) 0 = c.toNat := fun {c r} => rfl
  have hc : ∀ {c : UInt8} {r : Str}, byteAt (bs (c :: r)) 0 = 46 → c = 46 := fun {c r} h => UInt8.toNat_inj.1 h
  have ht : ∀ {c : UInt8} {r : Str} {j : Nat}, byteAt (bs (c :: r)) (j + 1) = (r.getD j 0).toNat := fun {c r j} => by
    show ((c :: r).getD (j + 1) 0).toNat = _
    rw [List.getD_cons_succ]
  refine ⟨fun h => ?_, fun h => ?_, fun h h2 => ?_, fun h h2 h3 h4 => ?_, fun h h2 h3 h4 h5 => ?_, fun j h h2 h3 h4 => ?_⟩ <;> (try rw [bs_size] at *) <;> (try rw [bs_list] at *)
  · exact sufB_short h
  · exact sufB_long h
  · cases s with
    | nil => simp at h
    | cons c r => exact sufB_head h2
  · cases s with
    | nil => simp at h
    | cons c r => obtain rfl := hc h3; exact sufB_name h h2 h4
  · cases s with
    | nil => simp at h
    | cons c r =>
      obtain rfl := hc h3
      refine sufB_yes h h2 h4 fun d hm => ?_
      obtain ⟨j, hj, e⟩ := List.getElem_of_mem hm
      have := h5 (j + 1) (by omega) (by rw [List.length_cons]; omega)
      rw [ht, List.getD, List.getElem?_eq_getElem hj, e] at this
      exact this
  · cases s with
    | nil => simp at h3
    | cons c r =>
      obtain rfl := hc h
      obtain ⟨m, rfl⟩ : ∃ m, j = m + 1 := ⟨j - 1, by omega⟩
      rw [ht] at h4
      rw [List.length_cons] at h3
      exact sufB_has (c := r.getD m 0) (by rw [List.getD, List.getElem?_eq_getElem (by omega)]; exact List.getElem_mem _) h4
set_option maxHeartbeats 4000000 in
theorem rsuf_any (s : Str) (w : World) (hs : s.length ≤ 9223372036854775807) :
    Calls Try.prog 35 #[.string (bs s)] w fun e w' => e = .returned (.bool (sufB s)) ∧ w' = w := by
  have SF := Lib.hid (suf_facts s)
  have GN := Lib.hid (goodName_any (bs s) w (by rw [bs_size]; exact hs))
  have hs' : (bs s).size ≤ 9223372036854775807 := by rw [bs_size]; exact hs
  clear hs
  generalize bs s = X at *
  generalize sufB s = q at *
  have HF : Hid (∀ k (h : k < X.size), X[k].toNat = byteAt X k) := byteAt_get X
  by_cases h2 : X.size < 2
  · have E := Lib.hid (SF.out.short h2)
    have t1 : decide ((X.size : Int) < 2) = true := decide_eq_true (by omega)
    clear h2
    go_enter Try.func35, Try.ntmps35
    go_wp2
    go_ret
    exact ⟨by rw [E.out]; rfl, rfl⟩
  have t1 : decide ((X.size : Int) < 2) = false := decide_eq_false (by omega)
  by_cases h10 : 10 < X.size
  · have E := Lib.hid (SF.out.long h10)
    have t2 : decide ((10 : Int) < (X.size : Int)) = true := decide_eq_true (by omega)
    clear h2 h10
    go_enter Try.func35, Try.ntmps35
    go_wp2
    go_ret
    exact ⟨by rw [E.out]; rfl, rfl⟩
  have t2 : decide ((10 : Int) < (X.size : Int)) = false := decide_eq_false (by omega)
  have hp : 0 < X.size := by omega
  have b0 := HF.out 0 hp
  by_cases h46 : byteAt X 0 ≠ 46
  · have E := Lib.hid (SF.out.head hp h46)
    have t3 : (((byteAt X 0 : Nat) : Int) != 46) = true := by rw [bne_iff_ne]; omega
    clear h2 h10 h46
    generalize byteAt X 0 = c at *
    go_enter Try.func35, Try.ntmps35
    go_wp2
    go_ret
    exact ⟨by rw [E.out]; rfl, rfl⟩
  have h46 : byteAt X 0 = 46 := by omega
  have NM := Lib.hid (SF.out.name (by omega) (by omega) h46)
  have YS := Lib.hid (SF.out.yes (by omega) (by omega) h46)
  have HS : Hid (∀ j, 1 ≤ j → j < X.size → byteAt X j = 46 ∨ byteAt X j = 47 → q = false) := fun j => SF.out.has j h46
  rw [h46] at b0
  cases hg : good X.data.toList
  · rw [hg] at GN
    have E := Lib.hid (NM.out hg)
    clear h2 h10 h46 hg SF NM YS HS
    go_enter Try.func35, Try.ntmps35
    go_wp2_with fail
    refine GN.out.mono ?_
    rintro e w' ⟨rfl, rfl⟩
    go_wp2
    go_ret
    exact ⟨by rw [E.out]; rfl, rfl⟩
  rw [hg] at GN
  have YY := Lib.hid (YS.out hg)
  clear hg SF NM YS
  have H2 : Hid (1 ≤ X.size) := Lib.hid (by omega)
  have HX : Hid (X.size ≤ 10) := Lib.hid (by omega)
  clear h2 h10 h46
  go_enter Try.func35, Try.ntmps35
  go_wp2_with fail
  refine GN.out.mono ?_
  rintro e w' ⟨rfl, rfl⟩
  go_wp2_with fail
  go_loopw [3] (fun v wr => ∃ k : Nat, v = .int .i64 (k : Int) ∧ 1 ≤ k ∧ k ≤ X.size ∧ (∀ j, 1 ≤ j → j < k → byteAt X j ≠ 46 ∧ byteAt X j ≠ 47) ∧ wr = w') (fun v _ => X.size - (intOf v).toNat)
  case atStart => exact ⟨1, rfl, Nat.le_refl _, H2.out, fun j h1 h2 => by omega, rfl⟩
  case round =>
    obtain ⟨k, rfl, h1, hk, ha, rfl⟩ := hrel
    have HA := Lib.hid ha; clear ha
    have hx := HX.out
    by_cases hkl : k < X.size
    · have b1 := HF.out k hkl
      have HK := Lib.hid (HS.out k h1 hkl)
      have HN : Hid (byteAt X k ≠ 46 → byteAt X k ≠ 47 → ∀ j, 1 ≤ j → j < k + 1 → byteAt X j ≠ 46 ∧ byteAt X j ≠ 47) := fun n1 n2 j hj1 hj2 => by
        rcases Nat.lt_succ_iff_lt_or_eq.1 hj2 with h | rfl
        · exact HA.out j hj1 h
        · exact ⟨n1, n2⟩
      generalize byteAt X k = c at *
      by_cases h46 : c = 46
      · have E := Lib.hid (HK.out (.inl h46))
        rw [h46] at b1
        clear h46
        go_wp2
        go_ret
        exact ⟨by rw [E.out]; rfl, rfl⟩
      · have t3 : ((c : Int) == 46) = false := by rw [beq_eq_false_iff_ne]; omega
        by_cases h47 : c = 47
        · have E := Lib.hid (HK.out (.inr h47))
          rw [h47] at b1
          clear h46 h47
          go_wp2
          go_ret
          exact ⟨by rw [E.out]; rfl, rfl⟩
        · have t4 : ((c : Int) == 47) = false := by rw [beq_eq_false_iff_ne]; omega
          have HM := Lib.hid (HN.out h46 h47)
          clear h46 h47 HN HK
          go_wp2
          go_roundw
          case rel => exact ⟨k + 1, by go_num, by omega, by omega, HM.out, by first | rfl | trivial⟩
          case measure => simp [intOf]; omega
    · obtain rfl : k = X.size := by omega
      have E := Lib.hid (YY.out HA.out)
      go_wp2
      go_ret
      exact ⟨by rw [E.out]; rfl, rfl⟩
end Go.Proofs.Ytihiohohocfchaa
