/-
  What the reference's blank, Shown, Trimmed, aside answer. Condition: the strings are shorter than 2^40 bytes.
-/
import Derived.Test.YtdencbkepiaigaaDoorLUn
namespace Go.Proofs.YtdencbkepiaigaaDoor
open Go.ChangeShapes Go.WideShapes Go.ChangeAt Go.RowKit

/-- byte k -/
def bK (S : ByteArray) (k : Nat) : UInt8 := S.data.toList.getD k 0
theorem bK_get (S : ByteArray) (k : Nat) (h : k < S.size) : S[k].toNat = (bK S k).toNat := by
  rw [byteAt_get S k h]; rfl
theorem bK_ext (S : ByteArray) (k : Nat) (h : k < S.size) : S.extract k (k + 1) = bs [bK S k] := by
  have hl : k < S.data.toList.length := by rw [size_list]; exact h
  rw [← bs_of (S.extract k (k + 1))]
  congr 1
  have := Lib.extract_toList S k (k + 1)
  rw [Lib.toList_data] at this
  rw [this, List.drop_eq_getElem_cons hl, Nat.add_sub_cancel_left, List.take_succ_cons, List.take_zero]
  unfold bK
  rw [List.getD, List.getElem?_eq_getElem hl]; rfl
theorem bs_app (a b : Str) : bs a ++ bs b = bs (a ++ b) := by
  rw [← bs_of (bs a ++ bs b)]; congr 1
theorem take_bK (S : ByteArray) (k : Nat) (h : k < S.size) : S.data.toList.take (k + 1) = S.data.toList.take k ++ [bK S k] := by
  have hl : k < S.data.toList.length := by rw [size_list]; exact h
  rw [List.take_succ_eq_append_getElem hl]
  unfold bK
  rw [List.getD, List.getElem?_eq_getElem hl]; rfl
theorem drop_bK (S : ByteArray) (k : Nat) (h : k < S.size) : S.data.toList.drop k = bK S k :: S.data.toList.drop (k + 1) := by
  have hl : k < S.data.toList.length := by rw [size_list]; exact h
  rw [List.drop_eq_getElem_cons hl]
  unfold bK
  rw [List.getD, List.getElem?_eq_getElem hl]; rfl

theorem blank_any (c : UInt8) (w : World) :
    Calls Tryd.prog 59 #[.int .u8 (c.toNat : Int)] w fun e w' => e = .returned (.bool (bl c)) ∧ w' = w := by
  have e1 : ((c.toNat : Int) == 32) = (c == 32) := by
    rw [Bool.eq_iff_iff, beq_iff_eq, beq_iff_eq]
    exact ⟨fun h => UInt8.toNat_inj.1 (by show c.toNat = 32; omega), fun h => by rw [h]; rfl⟩
  have e2 : ((c.toNat : Int) == 9) = (c == 9) := by
    rw [Bool.eq_iff_iff, beq_iff_eq, beq_iff_eq]
    exact ⟨fun h => UInt8.toNat_inj.1 (by show c.toNat = 9; omega), fun h => by rw [h]; rfl⟩
  unfold bl
  generalize c.toNat = n at *
  cases h1 : (c == 32) with
  | true =>
    rw [h1] at e1
    clear h1 e2
    go_enter Tryd.func59, Tryd.ntmps59
    go_wp2
    go_ret
    exact ⟨rfl, rfl⟩
  | false =>
    rw [h1] at e1
    clear h1
    have E2 := Lib.hid e2; clear e2
    go_enter Tryd.func59, Tryd.ntmps59
    go_wp2
    go_ret
    exact ⟨ret_b E2.out, rfl⟩

theorem esc_one (c : UInt8) : esc [c] = if c = 35 then [92, 35] else [c] := by
  by_cases h : c = 35 <;> simp [esc, h]
theorem eq35 (c : UInt8) : ((c.toNat : Int) == 35) = decide (c = 35) := by
  rw [Bool.eq_iff_iff, beq_iff_eq, decide_eq_true_iff]
  exact ⟨fun h => UInt8.toNat_inj.1 (by show c.toNat = 35; omega), fun h => by rw [h]; rfl⟩
def strOf' : Value → Nat
  | .string b => b.size
  | _ => 0
theorem bs_cons_get (c : UInt8) (r : Str) (h : 0 < (bs (c :: r)).size) : (bs (c :: r))[0].toNat = c.toNat := rfl
theorem bs_tail (c : UInt8) (r : Str) : (bs (c :: r)).extract 1 (bs (c :: r)).size = bs r := by
  rw [← bs_of ((bs (c :: r)).extract 1 (bs (c :: r)).size)]
  congr 1
  have := Lib.extract_toList (bs (c :: r)) 1 (bs (c :: r)).size
  rw [Lib.toList_data] at this
  rw [this, bs_list, bs_size]
  simp
theorem bs_snoc_get (r : Str) (c : UInt8) (h : r.length < (bs (r ++ [c])).size) : (bs (r ++ [c]))[r.length].toNat = c.toNat := by
  rw [byteAt_get _ _ h]
  unfold byteAt
  rw [bs_list]
  simp
theorem bs_init (r : Str) (c : UInt8) : (bs (r ++ [c])).extract 0 r.length = bs r := by
  rw [bs_take, bs_list]; simp
theorem triml_cons (c : UInt8) (r : Str) : triml (c :: r) = if bl c then triml r else c :: r := by
  unfold triml; rw [List.dropWhile_cons]
theorem trimr_snoc (r : Str) (c : UInt8) : trimr (r ++ [c]) = if bl c then trimr r else r ++ [c] := by
  unfold trimr
  rw [List.reverse_append, List.reverse_singleton, List.singleton_append, List.dropWhile_cons]
  split <;> simp
theorem trim_swap : ∀ s : Str, trimr (triml s) = triml (trimr s)
  | [] => rfl
  | c :: r => by
    rw [triml_cons]
    cases hc : bl c with
    | true =>
      rw [if_pos rfl, trim_swap r]
      rcases List.eq_nil_or_concat r with rfl | ⟨q, d, rfl⟩
      · have : trimr [c] = [] := by simp [trimr, hc]
        rw [this]; rfl
      · rw [List.concat_eq_append, ← List.cons_append, trimr_snoc, trimr_snoc]
        cases hd : bl d with
        | true =>
          simp only [if_true]
          have ih := trim_swap (c :: q)
          rw [triml_cons, hc, if_pos rfl, trim_swap q] at ih
          exact ih
        | false =>
          simp only [Bool.false_eq_true, if_false]
          rw [List.cons_append, triml_cons, hc, if_pos rfl]
    | false =>
      simp only [Bool.false_eq_true, if_false]
      have key : ∀ q : Str, triml (trimr (c :: q)) = trimr (c :: q) := by
        intro q
        have : ∃ t, trimr (c :: q) = c :: t := by
          unfold trimr
          rw [List.reverse_cons, List.dropWhile_append]
          split
          · have : List.dropWhile bl [c] = [c] := by simp [hc]
            rw [this]; exact ⟨[], rfl⟩
          · rw [List.reverse_append]; exact ⟨_, rfl⟩
        obtain ⟨t, e⟩ := this
        rw [e, triml_cons, hc]; rfl
      exact (key r).symm
  termination_by s => s.length
  decreasing_by all_goals simp_all <;> omega

end Go.Proofs.YtdencbkepiaigaaDoor
