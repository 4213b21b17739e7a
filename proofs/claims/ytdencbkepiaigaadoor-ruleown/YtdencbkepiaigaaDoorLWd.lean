/-
  What package line's Words, strings.Join with a space and slices.Equal of strings answer; that package line is alive. Condition: the string is shorter than 2^32 bytes.
-/
import Derived.Test.YtdencbkepiaigaaDoorLWp
import Derived.Test.YtdencbkepiaigaaDoorLRune
import Derived.Shelf.SlicesE.Equal
namespace Go.Proofs.YtdencbkepiaigaaDoor
open Go.ChangeShapes Go.WideShapes Go.ChangeAt Go.RowKit

theorem beq_dec (x y : Str) : (x == y) = decide (x = y) := by
  by_cases h : x = y <;> simp [h]
theorem neS (P : Program) (T : TypeId) : NeqAt P T encStr (fun x y => decide (x = y)) :=
  ⟨fun x y w => by
    have : (binOp .neq T (.string (bs x)) (.string (bs y))).run P w = .ok (.bool (!((bs x).toList == (bs y).toList))) w := (NeqAt.string P T).1 (bs x) (bs y) w
    rw [bs_toList, bs_toList, beq_dec] at this
    exact this, fun op a b x y w => (NeqAt.string P T).2 op a b (bs x) (bs y) w⟩

theorem bang_getD (z : List Str) (k : Nat) (h : k < z.length) : z[k]! = z.getD k [] := by
  rw [getElem!_pos z k h, List.getD, List.getElem?_eq_getElem h]; rfl

theorem allEq_iff : ∀ (a b : List Str), Lib.allEq (fun x y => decide (x = y)) a b = decide (a = b)
  | [], [] => by simp [Lib.allEq]
  | [], _ :: _ => by simp [Lib.allEq]
  | _ :: _, [] => by simp [Lib.allEq]
  | x :: a, y :: b => by rw [Lib.allEq, allEq_iff a b]; by_cases h : x = y <;> by_cases k : a = b <;> simp [h, k]
theorem equal_len (a1 a2 : Option Addr) (n1 c1 n2 c2 : Nat) (w : World) (h : n1 ≠ n2) :
    Calls Tryd.prog 18 #[.slice a1 n1 c1, .slice a2 n2 c2] w fun e w' => e = .returned (.bool false) ∧ w' = w := by
  have t : ((n1 : Int) != (n2 : Int)) = true := by rw [bne_iff_ne]; omega
  clear h
  go_enter Tryd.func18, Tryd.ntmps18
  go_wp2
  go_ret
  exact ⟨rfl, rfl⟩
theorem equal_none (a b : Option Addr) (c1 c2 : Nat) (w : World) : Calls Tryd.prog 18 #[.slice a 0 c1, .slice b 0 c2] w fun e w' => e = .returned (.bool true) ∧ w' = w := by
  go_enter Tryd.func18, Tryd.ntmps18
  go_wp2_with fail
  go_rounds 1
  go_ret
  exact ⟨rfl, rfl⟩
theorem equal_of {w : World} {v1 v2 : Value} {z1 z2 : List Str} (h1 : SIn w v1 z1) (h2 : SIn w v2 z2) :
    Calls Tryd.prog 18 #[v1, v2] w fun e w' => e = .returned (.bool (decide (z1 = z2))) ∧ ∃ q, w' = w.drewN q := by
  have b1 := h1.bound
  have b2 := h2.bound
  by_cases hl : z1.length = z2.length
  · rcases h1.open with ⟨rfl, a, cap, rfl⟩ | ⟨hp, b, off, cap, rfl, _, _, hc⟩
    · have hz : z2 = [] := List.length_eq_zero_iff.1 hl.symm
      subst hz
      rcases h2.open with ⟨_, a', cap', rfl⟩ | ⟨hp, _⟩
      · exact (equal_none a a' cap cap' w).mono fun e w' k => ⟨k.1, 0, k.2⟩
      · exact absurd hp (Nat.not_lt_zero _)
    · rcases h2.open with ⟨rfl, _⟩ | ⟨hp2, b', off', cap', rfl, _, _, hc'⟩
      · rw [hl] at hp; exact absurd hp (Nat.not_lt_zero _)
      · have := AnyE.slices_Equal Tryd.laysSlE33_f18 encStr (fun x y => decide (x = y)) (neS _ _) b off z1.length cap b' off' z2.length cap' z1 z2 w (Nat.le_refl _) (Nat.le_refl _) (by omega) (by omega) (fun j hj => by rw [hc j hj, bang_getD z1 j hj]; rfl) (fun j hj => by rw [hc' j hj, bang_getD z2 j hj]; rfl)
        refine Calls.mono (show Calls Tryd.prog 18 _ _ _ from this) ?_
        rintro e w' ⟨rfl, q, rfl⟩
        exact ⟨ret_b (by rw [List.take_length, List.take_length]; exact allEq_iff z1 z2), q, rfl⟩
  · have e1 : decide (z1 = z2) = false := decide_eq_false (by rintro rfl; exact hl rfl)
    rw [e1]
    obtain ⟨a, c, rfl, _⟩ := h1
    obtain ⟨a', c', rfl, _⟩ := h2
    exact (equal_len a a' _ c _ c' w hl).mono fun e w' k => ⟨k.1, 0, k.2⟩


theorem pred_any (x : Nat) (w : World) : Calls Tryd.prog 57 #[.int .i32 (x : Int)] w fun e w' => e = .returned (.bool (blR x)) ∧ w' = w := by
  unfold blR
  by_cases h1 : x = 32
  · subst h1
    go_enter Tryd.func57, Tryd.ntmps57
    go_wp2
    go_ret
    exact ⟨rfl, rfl⟩
  · have d1 : ((x : Int) == 32) = false := by rw [beq_eq_false_iff_ne]; omega
    have e1 : (x == 32) = false := by rw [beq_eq_false_iff_ne]; exact h1
    have e2 : ((x : Int) == 9) = (x == 9) := by rw [Bool.eq_iff_iff, beq_iff_eq, beq_iff_eq]; omega
    rw [e1, Bool.false_or]
    clear h1 e1
    have E2 := Lib.hid e2; clear e2
    go_enter Tryd.func57, Tryd.ntmps57
    go_wp2
    go_ret
    exact ⟨ret_b E2.out, rfl⟩

theorem words_small (s : Str) (h : s.length ≤ 4294967296) : (words s).length ≤ 17592186044416 ∧ ∀ x ∈ words s, x.length ≤ 9223372036854775807 := by
  have h1 := words_bulk s
  have h2 := bulk_len (words s)
  refine ⟨by omega, fun x hx => ?_⟩
  have := bulk_in hx
  omega
theorem fields_any (S : ByteArray) (w : World) (hs : S.size ≤ 4294967296) :
    Calls Tryd.prog 56 #[.string S, .func (.func 57) #[] #[]] w fun e w' => ∃ v, e = .returned v ∧ SIn w' v (words S.data.toList) ∧ Below w.heap.size w w' := by
  have hp : PredAtRunes Tryd.prog 57 #[] blR w := fun W x _ _ => (pred_any x W).mono fun e w' ⟨h1, h2⟩ => ⟨h1, 0, h2⟩
  refine (Tryd.strings_FieldsFunc_runes 57 #[] (enters_of Tryd.func57 (by kernel_rfl) rfl) blR S w hs hp).mono ?_
  rintro e w' ⟨a, rfl, _, h2, h3⟩
  have hl : (Lib.goFieldsP blR S).length = (words S.data.toList).length := by rw [← fields_words, List.length_map]
  have hv : (Lib.goFieldsP blR S).map Value.string = (words S.data.toList).map encStr := by
    rw [← fields_words, List.map_map]
    apply List.map_congr_left
    intro x _
    rw [Function.comp, encStr_bs, bs_of]
  rw [hv, hl] at h2
  rw [hl]
  obtain ⟨q1, q2⟩ := words_small S.data.toList (by rw [size_list]; exact hs)
  exact ⟨_, rfl, SIn.own h2 q1 q2, h3⟩
theorem words_any (S : ByteArray) (w : World) (hs : S.size ≤ 4294967296) :
    Calls Tryd.prog 37 #[.string S] w fun e w' => ∃ v, e = .returned v ∧ SIn w' v (words S.data.toList) ∧ Below w.heap.size w w' := by
  have HC := Lib.hid (fields_any S w hs)
  go_enter Tryd.func37, Tryd.ntmps37
  go_wp2_with fail
  refine HC.out.mono ?_
  rintro e w' ⟨v, rfl, h1, h2⟩
  have H1 := Lib.hid h1; have H2 := Lib.hid h2; clear h1 h2
  go_wp2
  go_ret
  exact ⟨_, rfl, H1.out, H2.out⟩

theorem joinS_any {w : World} {v : Value} {z : List Str} (h : SIn w v z) (hb : bulk z ≤ 1099511627776) :
    Calls Tryd.prog 33 #[v, .string (ByteArray.mk #[32])] w fun e w' => e = .returned (.string (bs (Lib.join z [32]))) ∧ Below w.heap.size w w' := by
  have hlen := join_len z
  rcases h.open with ⟨rfl, a, cap, rfl⟩ | ⟨hpos, b, off, cap, rfl, hcap, hlt, hc⟩
  · refine (Tryd.strings_Join_none a cap ⟨#[32]⟩ w).mono ?_
    rintro e w' ⟨rfl, rfl⟩
    exact ⟨rfl, Below.refl _ _⟩
  · have hm : (z.map bs).map (·.data.toList) = z := by
      rw [List.map_map]
      exact (List.map_congr_left (fun x _ => bs_list x)).trans (List.map_id z)
    have hl : (z.map bs).length = z.length := List.length_map _
    have := Tryd.strings_Join b off cap (z.map bs) ⟨#[32]⟩ w (fun j x hj => by
      rw [List.getElem?_map] at hj
      rcases Nat.lt_or_ge j z.length with hj' | hj'
      · rw [List.getElem?_eq_getElem hj'] at hj
        have hx := hc j hj'
        rw [List.getD, List.getElem?_eq_getElem hj'] at hx
        simp at hj; subst hj; exact hx
      · rw [List.getElem?_eq_none hj'] at hj; cases hj) hlt (by have := h.bound; omega) (by omega) (by rw [hm]; exact Nat.le_trans hlen (by omega))
    rw [hm, hl] at this
    exact this

theorem alive_join : joinR [97, 10] = ([(1, [97])], 0) := by decide +kernel
end Go.Proofs.YtdencbkepiaigaaDoor
