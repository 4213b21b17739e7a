/-
  What the reference's blank, Shown, Trimmed, aside answer. Condition: the strings are shorter than 2^40 bytes.
-/
import Derived.Test.YtnfjcclblggbiaaDoorLUn
import Derived.Test.YtnfjcclblggbiaaDoorLPb
namespace Go.Proofs.YtnfjcclblggbiaaDoor
open Go.ChangeShapes Go.WideShapes Go.ChangeAt Go.RowKit

/-- byte k -/
def bK (S : ByteArray) (k : Nat) : UInt8 := S.data.toList.getD k 0
theorem bK_get (S : ByteArray) (k : Nat) (h : k < S.size) : S[k].toNat = (bK S k).toNat := by
  rw [byteAt_get S k h]; rfl
theorem bK_ext (S : ByteArray) (k : Nat) (h : k < S.size) : S.extract k (k + 1) = bs [bK S k] := by
  have hl : k < S.data.toList.length := by rw [size_list]; exact h
  rw [← bs_of (S.extract k (k + 1))]
  congr 1
  have := Lib.extract_toList S k (k + 1)
  rw [Lib.toList_data] at this
  rw [this, List.drop_eq_getElem_cons hl, Nat.add_sub_cancel_left, List.take_succ_cons, List.take_zero]
  unfold bK
  rw [List.getD, List.getElem?_eq_getElem hl]; rfl
theorem bs_app (a b : Str) : bs a ++ bs b = bs (a ++ b) := by
  rw [← bs_of (bs a ++ bs b)]; congr 1
theorem take_bK (S : ByteArray) (k : Nat) (h : k < S.size) : S.data.toList.take (k + 1) = S.data.toList.take k ++ [bK S k] := by
  have hl : k < S.data.toList.length := by rw [size_list]; exact h
  rw [List.take_succ_eq_append_getElem hl]
  unfold bK
  rw [List.getD, List.getElem?_eq_getElem hl]; rfl
theorem drop_bK (S : ByteArray) (k : Nat) (h : k < S.size) : S.data.toList.drop k = bK S k :: S.data.toList.drop (k + 1) := by
  have hl : k < S.data.toList.length := by rw [size_list]; exact h
  rw [List.drop_eq_getElem_cons hl]
  unfold bK
  rw [List.getD, List.getElem?_eq_getElem hl]; rfl

theorem blank_any (c : UInt8) (w : World) :
    Calls Tryd.prog 29 #[.int .u8 (c.toNat : Int)] w fun e w' => e = .returned (.bool (bl c)) ∧ w' = w := by
  have e1 : ((c.toNat : Int) == 32) = (c == 32) := by
    rw [Bool.eq_iff_iff, beq_iff_eq, beq_iff_eq]
    exact ⟨fun h => UInt8.toNat_inj.1 (by show c.toNat = 32; omega), fun h => by rw [h]; rfl⟩
  have e2 : ((c.toNat : Int) == 9) = (c == 9) := by
    rw [Bool.eq_iff_iff, beq_iff_eq, beq_iff_eq]
    exact ⟨fun h => UInt8.toNat_inj.1 (by show c.toNat = 9; omega), fun h => by rw [h]; rfl⟩
  unfold bl
  generalize c.toNat = n at *
  cases h1 : (c == 32) with
  | true =>
    rw [h1] at e1
    clear h1 e2
    go_enter Tryd.func29, Tryd.ntmps29
    go_wp2
    go_ret
    exact ⟨rfl, rfl⟩
  | false =>
    rw [h1] at e1
    clear h1
    have E2 := Lib.hid e2; clear e2
    go_enter Tryd.func29, Tryd.ntmps29
    go_wp2
    go_ret
    exact ⟨ret_b E2.out, rfl⟩

theorem esc_one (c : UInt8) : esc [c] = if c = 35 then [92, 35] else [c] := by
  by_cases h : c = 35 <;> simp [esc, h]
theorem eq35 (c : UInt8) : ((c.toNat : Int) == 35) = decide (c = 35) := by
  rw [Bool.eq_iff_iff, beq_iff_eq, decide_eq_true_iff]
  exact ⟨fun h => UInt8.toNat_inj.1 (by show c.toNat = 35; omega), fun h => by rw [h]; rfl⟩
set_option maxHeartbeats 1000000 in
theorem shown_any (S : ByteArray) (w : World) (hs : S.size ≤ 1099511627776) :
    Calls Tryd.prog 41 #[.string S] w fun e w' => e = .returned (.string (bs (esc S.data.toList))) ∧ w' = w := by
  have HF : Hid (∀ k (h : k < S.size), S[k].toNat = (bK S k).toNat) := bK_get S
  have HX : Hid (∀ k, k < S.size → S.extract k (k + 1) = bs [bK S k]) := bK_ext S
  have HT : Hid (∀ k, k < S.size → esc (S.data.toList.take (k + 1)) = esc (S.data.toList.take k) ++ if bK S k = 35 then [92, 35] else [bK S k]) := fun k h => by rw [take_bK S k h, esc_app, esc_one]
  have HN : Hid (S.data.toList.take S.size = S.data.toList) := Lib.hid (by rw [← size_list]; exact List.take_length)
  have HB : Hid (∀ k, (bs (esc (S.data.toList.take k))).size ≤ 2199023255552) := fun k => by
    rw [bs_size]; have := esc_le (S.data.toList.take k); have := List.length_take_le k S.data.toList; have := size_list S; have : (S.data.toList.take k).length ≤ S.size := by rw [List.length_take, size_list]; omega
    omega
  have H92 : Hid (bs [92] = ByteArray.mk #[92]) := rfl
  generalize bK S = f at *
  generalize S.data.toList = s at *
  go_enter Tryd.func41, Tryd.ntmps41
  go_wp2_with fail
  go_loopw [3, 7] (fun o i wr => ∃ k : Nat, k ≤ S.size ∧ o = .string (bs (esc (s.take k))) ∧ i = .int .i64 (k : Int) ∧ wr = w) (fun _ i _ => S.size - (intOf i).toNat)
  case atStart => exact ⟨0, Nat.zero_le _, rfl, rfl, rfl⟩
  case round =>
    obtain ⟨k, hk, rfl, rfl, rfl⟩ := hrel
    by_cases hlt : k < S.size
    · have hb := HF.out k hlt
      have hx := HX.out k hlt
      have hz := HB.out k
      have T := Lib.hid (HT.out k hlt)
      have he := eq35 (f k)
      have h1 : (bs [f k]).size = 1 := bs_size _
      by_cases hc : f k = 35
      · rw [if_pos hc] at T
        rw [decide_eq_true hc] at he
        have HC := Lib.hid hc; clear hc
        go_wp2
        go_roundw
        case rel =>
          refine ⟨k + 1, by omega, ?_, by go_num, trivial⟩
          rw [T.out, ← H92.out, bs_app, bs_app, HC.out]; simp
        case measure => simp [intOf]; omega
      · rw [if_neg hc] at T
        rw [decide_eq_false hc] at he
        clear hc
        go_wp2
        go_roundw
        case rel =>
          refine ⟨k + 1, by omega, ?_, by go_num, trivial⟩
          rw [T.out, bs_app]
        case measure => simp [intOf]; omega
    · obtain rfl : k = S.size := by omega
      go_wp2
      go_ret
      rw [HN.out]
      exact ⟨rfl, rfl⟩

def strOf' : Value → Nat
  | .string b => b.size
  | _ => 0
theorem bs_cons_get (c : UInt8) (r : Str) (h : 0 < (bs (c :: r)).size) : (bs (c :: r))[0].toNat = c.toNat := rfl
theorem bs_tail (c : UInt8) (r : Str) : (bs (c :: r)).extract 1 (bs (c :: r)).size = bs r := by
  rw [← bs_of ((bs (c :: r)).extract 1 (bs (c :: r)).size)]
  congr 1
  have := Lib.extract_toList (bs (c :: r)) 1 (bs (c :: r)).size
  rw [Lib.toList_data] at this
  rw [this, bs_list, bs_size]
  simp
theorem bs_snoc_get (r : Str) (c : UInt8) (h : r.length < (bs (r ++ [c])).size) : (bs (r ++ [c]))[r.length].toNat = c.toNat := by
  rw [byteAt_get _ _ h]
  unfold byteAt
  rw [bs_list]
  simp
theorem bs_init (r : Str) (c : UInt8) : (bs (r ++ [c])).extract 0 r.length = bs r := by
  rw [bs_take, bs_list]; simp
theorem triml_cons (c : UInt8) (r : Str) : triml (c :: r) = if bl c then triml r else c :: r := by
  unfold triml; rw [List.dropWhile_cons]
theorem trimr_snoc (r : Str) (c : UInt8) : trimr (r ++ [c]) = if bl c then trimr r else r ++ [c] := by
  unfold trimr
  rw [List.reverse_append, List.reverse_singleton, List.singleton_append, List.dropWhile_cons]
  split <;> simp
theorem trim_swap : ∀ s : Str, trimr (triml s) = triml (trimr s)
  | [] => rfl
  | c :: r => by
    rw [triml_cons]
    cases hc : bl c with
    | true =>
      rw [if_pos rfl, trim_swap r]
      rcases List.eq_nil_or_concat r with rfl | ⟨q, d, rfl⟩
      · have : trimr [c] = [] := by simp [trimr, hc]
        rw [this]; rfl
      · rw [List.concat_eq_append, ← List.cons_append, trimr_snoc, trimr_snoc]
        cases hd : bl d with
        | true =>
          simp only [if_true]
          have ih := trim_swap (c :: q)
          rw [triml_cons, hc, if_pos rfl, trim_swap q] at ih
          exact ih
        | false =>
          simp only [Bool.false_eq_true, if_false]
          rw [List.cons_append, triml_cons, hc, if_pos rfl]
    | false =>
      simp only [Bool.false_eq_true, if_false]
      have key : ∀ q : Str, triml (trimr (c :: q)) = trimr (c :: q) := by
        intro q
        have : ∃ t, trimr (c :: q) = c :: t := by
          unfold trimr
          rw [List.reverse_cons, List.dropWhile_append]
          split
          · have : List.dropWhile bl [c] = [c] := by simp [hc]
            rw [this]; exact ⟨[], rfl⟩
          · rw [List.reverse_append]; exact ⟨_, rfl⟩
        obtain ⟨t, e⟩ := this
        rw [e, triml_cons, hc]; rfl
      exact (key r).symm
  termination_by s => s.length
  decreasing_by all_goals simp_all <;> omega

set_option maxHeartbeats 1000000 in
theorem trimmed_any (S : ByteArray) (w : World) (hs : S.size ≤ 1099511627776) :
    Calls Tryd.prog 11 #[.string S] w fun e w' => e = .returned (.string (bs (triml (trimr S.data.toList)))) ∧ w' = w := by
  have HO : Hid (bs S.data.toList = S) := bs_of S
  have SW := Lib.hid (trim_swap S.data.toList)
  have SZ := Lib.hid (size_list S)
  generalize S.data.toList = s at *
  obtain ⟨R, hR⟩ : ∃ R, R = triml s := ⟨_, rfl⟩
  rw [← hR] at SW
  have HR := Lib.hid hR; clear hR
  go_enter Tryd.func11, Tryd.ntmps11
  go_wp2_with fail
  go_loopw [0] (fun s0 wr => ∃ t : Str, s0 = .string (bs t) ∧ triml t = R ∧ t.length ≤ 1099511627776 ∧ wr = w) (fun s0 _ => strOf' s0)
  case atStart => exact ⟨s, by rw [HO.out], HR.out.symm, by have := SZ.out; omega, rfl⟩
  case round =>
    obtain ⟨t, rfl, ht, hl, rfl⟩ := hrel
    have HT := Lib.hid ht; clear ht
    cases t with
    | nil =>
      have hz : bs [] = ByteArray.mk #[] := rfl
      rw [hz]
      go_wp2_with fail
      rename World => w
      go_loopw [0] (fun s0 wr => ∃ t : Str, s0 = .string (bs t) ∧ trimr t = trimr R ∧ t.length ≤ 1099511627776 ∧ wr = w) (fun s0 _ => strOf' s0)
      case atStart => exact ⟨[], rfl, by rw [← HT.out]; rfl, by simp, rfl⟩
      case round =>
        obtain ⟨t, rfl, ht, hl, rfl⟩ := hrel
        have HT := Lib.hid ht; clear ht
        rcases List.eq_nil_or_concat t with rfl | ⟨r, c, rfl⟩
        · have hz : bs [] = ByteArray.mk #[] := rfl
          rw [hz]
          go_wp2
          go_ret
          rw [← SW.out, ← HT.out]
          exact ⟨rfl, rfl⟩
        · rw [List.concat_eq_append] at *
          obtain ⟨X, hX⟩ : ∃ X, X = bs (r ++ [c]) := ⟨_, rfl⟩
          have z0 : X.size = r.length + 1 := by rw [hX, bs_size]; simp
          have ne : X.toList.isEmpty = false := by rw [hX]; exact bs_some (by simp)
          have i1 : ((X.size : Int) - 1).toNat = X.size - 1 := by omega
          have i2 : (0 : Int) ≤ (X.size : Int) - 1 := by omega
          have i3 : (X.size : Int) - 1 < (X.size : Int) := by omega
          have i4 : X.size ≤ 1099511627776 := by rw [hX, bs_size]; exact hl
          have hb : ∀ h : X.size - 1 < X.size, X[X.size - 1].toNat = c.toNat := by
            subst hX
            intro h
            have := bs_snoc_get r c (by rw [bs_size]; simp)
            have e : (bs (r ++ [c])).size - 1 = r.length := by rw [z0]; rfl
            simp only [e]
            exact this
          have j0 : X.size - 1 < X.size := by omega
          have hb := hb j0
          have hx : X.extract 0 (X.size - 1) = bs r := by rw [z0, hX]; exact bs_init r c
          have TS := Lib.hid (trimr_snoc r c)
          have hl2 : r.length ≤ 1099511627776 := by simp at hl; omega
          have XX := Lib.hid hX
          have Z0 := Lib.hid z0
          rw [← hX]
          clear hX z0 hl
          go_wp2_with fail
          refine (blank_any c _).mono ?_
          rintro e w' ⟨rfl, rfl⟩
          cases hc : bl c with
          | true =>
            rw [hc] at TS
            clear hc
            go_wp2
            go_roundw
            case rel => exact ⟨r, rfl, by rw [← HT.out, TS.out]; simp, hl2, trivial⟩
            case measure =>
              show (bs r).size < X.size
              rw [bs_size, Z0.out]; omega
          | false =>
            rw [hc] at TS
            clear hc
            go_wp2
            go_ret
            rw [← SW.out, ← HT.out, TS.out, XX.out]
            exact ⟨rfl, rfl⟩
    | cons c r =>
      obtain ⟨X, hX⟩ : ∃ X, X = bs (c :: r) := ⟨_, rfl⟩
      have z0 : X.size = r.length + 1 := by rw [hX, bs_size]; simp
      have ne : X.toList.isEmpty = false := by rw [hX]; exact bs_some (by simp)
      have i3 : 0 < X.size := by omega
      have hb : ∀ h : 0 < X.size, X[0].toNat = c.toNat := by
        subst hX
        intro h; rfl
      have hb := hb i3
      have hx : X.extract 1 X.size = bs r := by rw [hX]; exact bs_tail c r
      have TS := Lib.hid (triml_cons c r)
      have hl2 : r.length ≤ 1099511627776 := by simp at hl; omega
      have XX := Lib.hid hX
      have Z0 := Lib.hid z0
      have HL := Lib.hid hl
      have i4 : X.size ≤ 1099511627776 := by rw [hX, bs_size]; exact hl
      have i5 : 1 ≤ X.size := i3
      rw [← hX]
      clear hX z0 hl
      go_wp2_with fail
      refine (blank_any c _).mono ?_
      rintro e w' ⟨rfl, rfl⟩
      cases hc : bl c with
      | true =>
        rw [hc] at TS
        clear hc
        go_wp2
        go_roundw
        case rel => exact ⟨r, rfl, by rw [← HT.out, TS.out]; simp, hl2, trivial⟩
        case measure =>
          show (bs r).size < X.size
          rw [bs_size, Z0.out]; omega
      | false =>
        rw [hc] at TS
        clear hc i3 i4 i5 hb hx ne
        rw [XX.out]
        clear Z0 XX
        go_wp2_with fail
        rename World => w
        go_loopw [0] (fun s0 wr => ∃ t : Str, s0 = .string (bs t) ∧ trimr t = trimr R ∧ t.length ≤ 1099511627776 ∧ wr = w) (fun s0 _ => strOf' s0)
        case atStart => exact ⟨c :: r, rfl, by rw [← HT.out, TS.out]; rfl, HL.out, rfl⟩
        case round =>
          obtain ⟨t, rfl, ht, hl, rfl⟩ := hrel
          have HT := Lib.hid ht; clear ht
          rcases List.eq_nil_or_concat t with rfl | ⟨r, c, rfl⟩
          · have hz : bs [] = ByteArray.mk #[] := rfl
            rw [hz]
            go_wp2
            go_ret
            rw [← SW.out, ← HT.out]
            exact ⟨rfl, rfl⟩
          · rw [List.concat_eq_append] at *
            obtain ⟨X, hX⟩ : ∃ X, X = bs (r ++ [c]) := ⟨_, rfl⟩
            have z0 : X.size = r.length + 1 := by rw [hX, bs_size]; simp
            have ne : X.toList.isEmpty = false := by rw [hX]; exact bs_some (by simp)
            have i1 : ((X.size : Int) - 1).toNat = X.size - 1 := by omega
            have i2 : (0 : Int) ≤ (X.size : Int) - 1 := by omega
            have i3 : (X.size : Int) - 1 < (X.size : Int) := by omega
            have i4 : X.size ≤ 1099511627776 := by rw [hX, bs_size]; exact hl
            have hb : ∀ h : X.size - 1 < X.size, X[X.size - 1].toNat = c.toNat := by
              subst hX
              intro h
              have := bs_snoc_get r c (by rw [bs_size]; simp)
              have e : (bs (r ++ [c])).size - 1 = r.length := by rw [z0]; rfl
              simp only [e]
              exact this
            have j0 : X.size - 1 < X.size := by omega
            have hb := hb j0
            have hx : X.extract 0 (X.size - 1) = bs r := by rw [z0, hX]; exact bs_init r c
            have TS := Lib.hid (trimr_snoc r c)
            have hl2 : r.length ≤ 1099511627776 := by simp at hl; omega
            have XX := Lib.hid hX
            have Z0 := Lib.hid z0
            rw [← hX]
            clear hX z0 hl
            go_wp2_with fail
            refine (blank_any c _).mono ?_
            rintro e w' ⟨rfl, rfl⟩
            cases hc : bl c with
            | true =>
              rw [hc] at TS
              clear hc
              go_wp2
              go_roundw
              case rel => exact ⟨r, rfl, by rw [← HT.out, TS.out]; simp, hl2, trivial⟩
              case measure =>
                show (bs r).size < X.size
                rw [bs_size, Z0.out]; omega
            | false =>
              rw [hc] at TS
              clear hc
              go_wp2
              go_ret
              rw [← SW.out, ← HT.out, TS.out, XX.out]
              exact ⟨rfl, rfl⟩
end Go.Proofs.YtnfjcclblggbiaaDoor
