/-
  strings.Cut and strings.CutPrefix at a separator of one byte; package macro's cutReference. Condition: strings of at most 2^63 - 1 bytes.
-/
import Derived.Test.YtoinflfibofofaaMIn
import Derived.Test.YtoinflfibofofaaShelf
namespace Go.Proofs.Ytoinflfibofofaa
set_option linter.unusedVariables false
open Go.ChangeShapes Go.WideShapes Go.ChangeAt Go.RowKit Go.Shelf

theorem bs_take (S : ByteArray) (k : Nat) : S.extract 0 k = bs (S.data.toList.take k) := by
  rw [← bs_of (S.extract 0 k)]
  congr 1
  have := Lib.extract_toList S 0 k
  rw [Lib.toList_data] at this
  rw [List.drop_zero, Nat.sub_zero] at this
  exact this
theorem bs_drop (S : ByteArray) (k : Nat) : S.extract k S.size = bs (S.data.toList.drop k) := by
  rw [← bs_of (S.extract k S.size)]
  congr 1
  have := Lib.extract_toList S k S.size
  rw [Lib.toList_data] at this
  rw [this, List.take_of_length_le]
  rw [List.length_drop, size_list]
  exact Nat.le_refl _
theorem idx_none : ∀ (x : Str) (c : UInt8), c ∉ x → Lib.indexByte x c = -1
  | [], c, _ => rfl
  | b :: l, c, h => by
    have h1 : b ≠ c := fun e => h (by rw [e]; exact List.mem_cons_self)
    rw [Lib.indexByte, idx_none l c (fun e => h (List.mem_cons_of_mem _ e))]
    simp [h1]
theorem idx_some (c : UInt8) (b : Str) : ∀ (a : Str), c ∉ a → Lib.indexByte (a ++ c :: b) c = a.length
  | [], _ => by simp [Lib.indexByte]
  | d :: a, h => by
    have h1 : d ≠ c := fun e => h (by rw [e]; exact List.mem_cons_self)
    rw [List.cons_append, Lib.indexByte, idx_some c b a (fun e => h (List.mem_cons_of_mem _ e))]
    simp [h1]
theorem split_at (c : UInt8) : ∀ x : Str, c ∉ x ∨ ∃ a b, x = a ++ c :: b ∧ c ∉ a
  | [] => .inl List.not_mem_nil
  | d :: r => by
    by_cases h : d = c
    · exact .inr ⟨[], r, by rw [h]; rfl, List.not_mem_nil⟩
    · rcases split_at c r with h' | ⟨a, b, rfl, h'⟩
      · refine .inl fun e => ?_
        rcases List.mem_cons.1 e with e | e
        · exact h e.symm
        · exact h' e
      · refine .inr ⟨d :: a, b, rfl, fun e => ?_⟩
        rcases List.mem_cons.1 e with e | e
        · exact h e.symm
        · exact h' e

theorem cutS_none (X : ByteArray) (c : UInt8) (w : World) (hi : Lib.indexByte X.data.toList c = -1) :
    Calls Try.prog 56 #[.string X, .string ⟨#[c]⟩] w fun e w' => e = .returned (.tuple #[.string X, .string ⟨#[]⟩, .bool false]) ∧ w' = w := by
  go_enter Try.func56, Try.ntmps56
  go_wp2_with fail
  refine (Try.stringslite_Index_one X c _).mono ?_
  rintro e w' ⟨rfl, rfl⟩
  rw [hi]
  clear hi
  go_wp2
  go_ret3
  exact ⟨rfl, rfl⟩
theorem cutS_some (X A B : ByteArray) (c : UInt8) (n : Nat) (w : World) (hn : n + 1 ≤ X.size) (hs : X.size ≤ 9223372036854775807) (hi : Lib.indexByte X.data.toList c = n) (ha : X.extract 0 n = A) (hb : X.extract (n + 1) X.size = B) :
    Calls Try.prog 56 #[.string X, .string ⟨#[c]⟩] w fun e w' => e = .returned (.tuple #[.string A, .string B, .bool true]) ∧ Below w.heap.size w w' := by
  go_enter Try.func56, Try.ntmps56
  go_wp2_with fail
  refine (Try.stringslite_Index_one X c _).mono ?_
  rintro e w' ⟨rfl, rfl⟩
  rw [hi]
  clear hi
  have n1 : (decide (0 ≤ (n : Int))) = true := decide_eq_true (by omega)
  have n2 : ((n : Int) + 1).toNat = n + 1 := by omega
  go_wp2
  go_quiet (fail)
  go_wp2
  go_ret3
  exact ⟨rfl, below_drewN (Below.refl _ _) _⟩

/-- what Cut hands back -/
def CutPost (x : Str) (c : UInt8) (w : World) (e : Ending) (w' : World) : Prop :=
  Below w.heap.size w w' ∧ ((c ∉ x ∧ e = .returned (.tuple #[.string (bs x), .string (bs []), .bool false])) ∨ ∃ a b, x = a ++ c :: b ∧ c ∉ a ∧ e = .returned (.tuple #[.string (bs a), .string (bs b), .bool true]))
theorem cut_any (x : Str) (c : UInt8) (w : World) (hx : x.length ≤ 9223372036854775807) : Calls Try.prog 46 #[.string (bs x), .string ⟨#[c]⟩] w (CutPost x c w) := by
  rcases split_at c x with h | ⟨a, b, rfl, h⟩
  · have H := Lib.hid h
    have C := Lib.hid (cutS_none (bs x) c w (by rw [bs_list]; exact idx_none x c h))
    clear h hx
    go_enter Try.func46, Try.ntmps46
    go_wp2_with fail
    refine C.out.mono ?_
    rintro e w' ⟨rfl, rfl⟩
    go_wp2
    go_ret3
    exact ⟨Below.refl _ _, .inl ⟨H.out, rfl⟩⟩
  · have H := Lib.hid h
    have C := Lib.hid (cutS_some (bs (a ++ c :: b)) (bs a) (bs b) c a.length w (by rw [bs_size]; simp) (by rw [bs_size]; exact hx) (by rw [bs_list]; exact idx_some c b a h) (by rw [bs_take, bs_list]; simp) (by rw [bs_drop, bs_list]; congr 1; rw [List.drop_append]; simp))
    clear h hx
    go_enter Try.func46, Try.ntmps46
    go_wp2_with fail
    refine C.out.mono ?_
    rintro e w' ⟨rfl, hb⟩
    go_wp2
    go_ret3
    exact ⟨hb, .inr ⟨a, b, rfl, H.out, rfl⟩⟩
/-- CutPrefix at one byte -/
theorem pre_any (x : Str) (c : UInt8) (w : World) : Calls Try.prog 47 #[.string (bs x), .string ⟨#[c]⟩] w fun e w' => w' = w ∧ (([c].isPrefixOf x = false ∧ e = .returned (.tuple #[.string (bs x), .bool false])) ∨ ∃ r, x = c :: r ∧ e = .returned (.tuple #[.string (bs r), .bool true])) := by
  refine (Try.strings_CutPrefix (bs x) ⟨#[c]⟩ w).mono ?_
  rintro e w' ⟨rfl, rfl⟩
  refine ⟨rfl, ?_⟩
  rw [bs_list]
  show _ ∨ _
  cases x with
  | nil => exact .inl ⟨rfl, rfl⟩
  | cons d r =>
    by_cases h : c = d
    · subst h
      refine .inr ⟨r, rfl, ?_⟩
      simp [Lib.trimPrefix, Lib.hasPrefix, List.isPrefixOf, bs]
    · refine .inl ⟨?_, ?_⟩
      · simp [List.isPrefixOf, h]
      · simp [Lib.trimPrefix, Lib.hasPrefix, List.isPrefixOf, bs, h]

/-- what cutReference hands back -/
def RefPost (x : Str) (w : World) (e : Ending) (w' : World) : Prop :=
  Below w.heap.size w w' ∧ ((∃ n r, x = 40 :: (n ++ 41 :: r) ∧ 41 ∉ n ∧ good n = true ∧ e = .returned (.tuple #[.string (bs n), .string (bs r), .bool true])) ∨
    (([36].isPrefixOf x = false → tk (some none) x = none) ∧ ∃ a b, e = .returned (.tuple #[a, b, .bool false])))
set_option maxHeartbeats 1000000 in
theorem ref_any (x : Str) (w : World) (hx : x.length ≤ 9223372036854775807) : Calls Try.prog 48 #[.string (bs x)] w (RefPost x w) := by
  have L := Lib.hid hx; clear hx
  go_enter Try.func48, Try.ntmps48
  go_wp2_with fail
  refine (pre_any x 40 _).mono ?_
  rintro e w1 ⟨rfl, (⟨h1, rfl⟩ | ⟨r, rfl, rfl⟩)⟩
  · have H1 := Lib.hid h1; clear h1
    go_wp2_with fail
    refine (cut_any x 41 _ L.out).mono ?_
    rintro e w2 ⟨hb, (⟨h2, rfl⟩ | ⟨a, b, rfl, h2, rfl⟩)⟩
    · have HB := Lib.hid hb; clear hb h2
      go_wp2
      go_ret3
      exact ⟨HB.out, .inr ⟨fun g => tk_bad _ g H1.out, _, _, rfl⟩⟩
    · have HB := Lib.hid hb; clear hb h2
      go_wp2
      go_ret3
      exact ⟨HB.out, .inr ⟨fun g => tk_bad _ g H1.out, _, _, rfl⟩⟩
  · have LR : Hid (r.length ≤ 9223372036854775807) := by have := L.out; rw [List.length_cons] at this; show _ ≤ _; omega
    clear L
    go_wp2_with fail
    refine (cut_any r 41 _ LR.out).mono ?_
    rintro e w2 ⟨hb, (⟨h2, rfl⟩ | ⟨a, b, rfl, h2, rfl⟩)⟩
    · have HB := Lib.hid hb; clear hb
      have H2 := Lib.hid h2; clear h2
      go_wp2
      go_ret3
      exact ⟨HB.out, .inr ⟨fun _ => by rw [tk_par]; exact tk_open _ _ H2.out, _, _, rfl⟩⟩
    · have HB := Lib.hid hb; clear hb
      have H2 := Lib.hid h2; clear h2
      go_wp2_with fail
      refine (check_any (bs a) _ (by rw [bs_size]; have := LR.out; rw [List.length_append] at this; omega)).mono ?_
      rintro e w3 ⟨rfl, rfl⟩
      rw [bs_list]
      cases hg : good a
      · have HG := Lib.hid hg; clear hg
        go_wp2
        go_ret3
        exact ⟨HB.out, .inr ⟨fun _ => by rw [tk_par, tk_in _ _ _ H2.out, List.nil_append, HG.out]; rfl, _, _, rfl⟩⟩
      · have HG := Lib.hid hg; clear hg
        go_wp2
        go_ret3
        exact ⟨HB.out, .inl ⟨a, b, rfl, H2.out, HG.out, rfl⟩⟩
end Go.Proofs.Ytoinflfibofofaa
