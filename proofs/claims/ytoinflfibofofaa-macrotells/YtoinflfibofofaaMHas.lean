/-
  slices.ContainsFunc at strings, whatever the test; package macro's hasAll. No condition.
-/
import Derived.Test.YtoinflfibofofaaMUses
namespace Go.Proofs.Ytoinflfibofofaa
set_option linter.unusedVariables false
open Go.ChangeShapes Go.WideShapes Go.ChangeAt Go.RowKit

/-- a function value that tests a string -/
def Tests (F : Nat) (caps : Array Value) (t : Str → Bool) (z : List Str) (w : World) : Prop :=
  ∀ x ∈ z, Calls Try.prog F (#[.string (bs x)] ++ caps) w fun e w' => e = .returned (.bool (t x)) ∧ w' = w
set_option maxHeartbeats 1000000 in
theorem index_any (F : Nat) (caps : Array Value) (t : Str → Bool) (z : List Str) (v : Value) (w : World) (h : SIn w v z) (eF : Ent F) (ht : Tests F caps t z w) :
    Calls Try.prog 54 #[v, .func (.func F) #[] caps] w fun e w' =>
      ((e = .returned (.int .i64 (-1)) ∧ z.any t = false) ∨ ((∃ k : Nat, e = .returned (.int .i64 (k : Int))) ∧ z.any t = true)) ∧ w' = w := by
  have HL := Lib.hid h.bound
  have HT := Lib.hid ht; clear ht
  have EF := Lib.hid eF; clear eF
  rcases h.open with ⟨rfl, a, cap, rfl⟩ | ⟨hp, b, off, cap, rfl, hcap, hlt, hc⟩
  · clear h
    go_enter Try.func54, Try.ntmps54
    go_wp2_with fail
    go_rounds 1
    go_ret
    exact ⟨.inl ⟨rfl, rfl⟩, rfl⟩
  · have HC := Lib.hid hc; clear hc h hlt
    go_enter Try.func54, Try.ntmps54
    go_wp2_with fail
    go_loopw [8] (fun i wr => ∃ k : Nat, k ≤ z.length ∧ i = .int .i64 k ∧ (z.take k).any t = false ∧ wr = w) (fun i _ => z.length - (intOf i).toNat)
    case atStart => exact ⟨0, by omega, rfl, by simp, rfl⟩
    case round =>
      obtain ⟨k, hk, rfl, ha, rfl⟩ := hrel
      have HA := Lib.hid ha; clear ha
      by_cases hkl : k < z.length
      · have c1 := HC.out k hkl
        have hz := HL.out
        have hm : z.getD k [] ∈ z := by rw [List.getD, List.getElem?_eq_getElem hkl]; exact List.getElem_mem hkl
        have T1 := Lib.hid (HT.out _ hm)
        have e1 : Hid ((z.take (k + 1)).any t = ((z.take k).any t || t (z.getD k []))) := by
          show _ = _
          rw [List.take_add_one, List.getElem?_eq_getElem hkl, List.any_append, List.getD, List.getElem?_eq_getElem hkl]; simp
        have M1 := Lib.hid hm; clear hm
        generalize z.getD k [] = x at *
        go_wp2_with fail
        rw [EF.out, Oper.upon_enter]
        refine T1.out.mono ?_
        rintro e w' ⟨rfl, rfl⟩
        cases ho : t x
        · have HO := Lib.hid ho; clear ho
          go_wp2
          go_roundw
          case rel => exact ⟨k + 1, by omega, by go_num, by rw [e1.out, HA.out, HO.out]; rfl, trivial⟩
          case measure => simp [intOf]; omega
        · have HO := Lib.hid ho; clear ho
          go_wp2
          go_ret
          exact ⟨.inr ⟨⟨k, rfl⟩, List.any_eq_true.2 ⟨x, M1.out, HO.out⟩⟩, rfl⟩
      · obtain rfl : k = z.length := by omega
        go_wp2
        go_ret
        have := HA.out
        rw [List.take_length] at this
        exact ⟨.inl ⟨rfl, this⟩, rfl⟩
theorem contains_any (F : Nat) (caps : Array Value) (t : Str → Bool) (z : List Str) (v : Value) (w : World) (h : SIn w v z) (eF : Ent F) (ht : Tests F caps t z w) :
    Calls Try.prog 39 #[v, .func (.func F) #[] caps] w fun e w' => e = .returned (.bool (z.any t)) ∧ w' = w := by
  have H := Lib.hid (index_any F caps t z v w h eF ht)
  clear h eF ht
  go_enter Try.func39, Try.ntmps39
  go_wp2_with fail
  refine H.out.mono ?_
  rintro e w' ⟨(⟨rfl, hz⟩ | ⟨⟨k, rfl⟩, hz⟩), rfl⟩
  · have HZ := Lib.hid hz; clear hz
    go_wp2
    go_ret
    exact ⟨by rw [HZ.out]; rfl, rfl⟩
  · have HZ := Lib.hid hz; clear hz
    have t : decide (0 ≤ (k : Int)) = true := decide_eq_true (by omega)
    go_wp2
    go_ret
    exact ⟨by rw [HZ.out]; rfl, rfl⟩
theorem any_not (f : Str → Option Value) : ∀ z : List Str, (!(z.any fun x => !(f x).isSome)) = z.all fun x => (f x).isSome
  | [] => rfl
  | x :: r => by rw [List.any_cons, List.all_cons, ← any_not f r]; cases (f x).isSome <;> simp
theorem has1_s (x : Str) (b n k : Nat) (f : Str → Option Value) (w : World) (hm : MI b n f w) (hx : x.length ≤ maxLen) (hk : w.heap[k]? = some (.cells #[.map (some b)] 50 (0, 0))) :
    Calls Try.prog 40 (#[.string (bs x)] ++ #[.pointer (some ⟨k, 0, none⟩)]) w fun e w' => e = .returned (.bool (!(f x).isSome)) ∧ w' = w := by
  have c := cell_of_one hk
  have l := hm.look_ok (t := 50) (e := 9) (z := (.string ByteArray.empty)) (x := x) Try.underlying50 (Try.zeroValue9 w) hx
  clear hm hx hk
  generalize (f x).isSome = b at *
  generalize (f x).getD (.string ByteArray.empty) = y at *
  go_enter Try.func40, Try.ntmps40
  go_wp2
  go_ret
  exact ⟨rfl, rfl⟩
theorem has_s (z : List Str) (v : Value) (b n : Nat) (f : Str → Option Value) (w : World) (hm : MI b n f w) (hv : SIn w v z) (hx : ∀ x ∈ z, x.length ≤ maxLen) :
    Calls Try.prog 26 #[.map (some b), v] w fun e w' => e = .returned (.bool (z.all fun x => (f x).isSome)) ∧ Below w.heap.size w w' := by
  have C := Lib.hid (contains_any 40 #[.pointer (some ⟨w.heap.size, 0, none⟩)] (fun x => !(f x).isSome) z v (w.alloc (.cells #[.map (some b)] 50)) (hv.later ((Below.refl _ _).alloc (Nat.le_refl _) _)) Try.call40
    (fun x hz => has1_s x b n _ f _ (hm.alloc _) (hx x hz) (heap_alloc_new _ _)))
  clear hm hv hx
  go_enter Try.func26, Try.ntmps26
  go_wp2_with fail
  refine C.out.mono ?_
  rintro e w' ⟨rfl, rfl⟩
  have AN := Lib.hid (any_not f z)
  generalize (z.any fun x => !(f x).isSome) = q at *
  go_wp2
  go_ret
  exact ⟨by rw [← AN.out]; rfl, (Below.refl _ _).alloc (Nat.le_refl _) _⟩
theorem has1_l (x : Str) (b n k : Nat) (f : Str → Option Value) (w : World) (hm : MI b n f w) (hx : x.length ≤ maxLen) (hk : w.heap[k]? = some (.cells #[.map (some b)] 87 (0, 0))) :
    Calls Try.prog 59 (#[.string (bs x)] ++ #[.pointer (some ⟨k, 0, none⟩)]) w fun e w' => e = .returned (.bool (!(f x).isSome)) ∧ w' = w := by
  have c := cell_of_one hk
  have l := hm.look_ok (t := 87) (e := 32) (z := (.slice none 0 0)) (x := x) Try.underlying87 (Try.zeroValue32 w) hx
  clear hm hx hk
  generalize (f x).isSome = b at *
  generalize (f x).getD (.slice none 0 0) = y at *
  go_enter Try.func59, Try.ntmps59
  go_wp2
  go_ret
  exact ⟨rfl, rfl⟩
theorem has_l (z : List Str) (v : Value) (b n : Nat) (f : Str → Option Value) (w : World) (hm : MI b n f w) (hv : SIn w v z) (hx : ∀ x ∈ z, x.length ≤ maxLen) :
    Calls Try.prog 50 #[.map (some b), v] w fun e w' => e = .returned (.bool (z.all fun x => (f x).isSome)) ∧ Below w.heap.size w w' := by
  have C := Lib.hid (contains_any 59 #[.pointer (some ⟨w.heap.size, 0, none⟩)] (fun x => !(f x).isSome) z v (w.alloc (.cells #[.map (some b)] 87)) (hv.later ((Below.refl _ _).alloc (Nat.le_refl _) _)) Try.call59
    (fun x hz => has1_l x b n _ f _ (hm.alloc _) (hx x hz) (heap_alloc_new _ _)))
  clear hm hv hx
  go_enter Try.func50, Try.ntmps50
  go_wp2_with fail
  refine C.out.mono ?_
  rintro e w' ⟨rfl, rfl⟩
  have AN := Lib.hid (any_not f z)
  generalize (z.any fun x => !(f x).isSome) = q at *
  go_wp2
  go_ret
  exact ⟨by rw [← AN.out]; rfl, (Below.refl _ _).alloc (Nat.le_refl _) _⟩
theorem has1_b (x : Str) (b n k : Nat) (f : Str → Option Value) (w : World) (hm : MI b n f w) (hx : x.length ≤ maxLen) (hk : w.heap[k]? = some (.cells #[.map (some b)] 55 (0, 0))) :
    Calls Try.prog 60 (#[.string (bs x)] ++ #[.pointer (some ⟨k, 0, none⟩)]) w fun e w' => e = .returned (.bool (!(f x).isSome)) ∧ w' = w := by
  have c := cell_of_one hk
  have l := hm.look_ok (t := 55) (e := 4) (z := (.bool false)) (x := x) Try.underlying55 (Try.zeroValue4 w) hx
  clear hm hx hk
  generalize (f x).isSome = b at *
  generalize (f x).getD (.bool false) = y at *
  go_enter Try.func60, Try.ntmps60
  go_wp2
  go_ret
  exact ⟨rfl, rfl⟩
theorem has_b (z : List Str) (v : Value) (b n : Nat) (f : Str → Option Value) (w : World) (hm : MI b n f w) (hv : SIn w v z) (hx : ∀ x ∈ z, x.length ≤ maxLen) :
    Calls Try.prog 51 #[.map (some b), v] w fun e w' => e = .returned (.bool (z.all fun x => (f x).isSome)) ∧ Below w.heap.size w w' := by
  have C := Lib.hid (contains_any 60 #[.pointer (some ⟨w.heap.size, 0, none⟩)] (fun x => !(f x).isSome) z v (w.alloc (.cells #[.map (some b)] 55)) (hv.later ((Below.refl _ _).alloc (Nat.le_refl _) _)) Try.call60
    (fun x hz => has1_b x b n _ f _ (hm.alloc _) (hx x hz) (heap_alloc_new _ _)))
  clear hm hv hx
  go_enter Try.func51, Try.ntmps51
  go_wp2_with fail
  refine C.out.mono ?_
  rintro e w' ⟨rfl, rfl⟩
  have AN := Lib.hid (any_not f z)
  generalize (z.any fun x => !(f x).isSome) = q at *
  go_wp2
  go_ret
  exact ⟨by rw [← AN.out]; rfl, (Below.refl _ _).alloc (Nat.le_refl _) _⟩
end Go.Proofs.Ytoinflfibofofaa
