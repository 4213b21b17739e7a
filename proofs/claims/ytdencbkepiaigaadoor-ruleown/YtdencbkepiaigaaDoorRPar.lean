/-
  What package rule's Parse answers; that package rule is alive. Condition: the string is shorter than 2^32 bytes.
-/
import Derived.Test.YtdencbkepiaigaaDoorRIn
import Derived.Test.YtdencbkepiaigaaDoorLSp
import Derived.Laws.ResultCell
namespace Go.Proofs.YtdencbkepiaigaaDoor
set_option linter.unusedVariables false
open Go.ChangeShapes Go.WideShapes Go.ChangeAt Go.RowKit

theorem wgo_blank : ∀ (t word : Str), (∀ c ∈ t, bl c = true) → wgo word t = wgo word []
  | [], _, _ => rfl
  | c :: r, word, h => by
    have hc := h c (List.mem_cons_self ..)
    have ih := wgo_blank r [] (fun d hd => h d (List.mem_cons_of_mem _ hd))
    by_cases h0 : word = []
    · subst h0; rw [wgo_skip hc, ih]
    · rw [wgo_cut h0 hc, ih, wgo_end h0, wgo, if_pos rfl]
theorem wgo_tail : ∀ (x word t : Str), (∀ c ∈ t, bl c = true) → wgo word (x ++ t) = wgo word x
  | [], word, t, h => wgo_blank t word h
  | c :: r, word, t, h => by
    cases hc : bl c with
    | true =>
      by_cases h0 : word = []
      · subst h0; rw [List.cons_append, wgo_skip hc, wgo_skip hc, wgo_tail r [] t h]
      · rw [List.cons_append, wgo_cut h0 hc, wgo_cut h0 hc, wgo_tail r [] t h]
    | false =>
      have e : ∀ q, wgo word (c :: q) = wgo (word ++ [c]) q := fun q => wgo_nb [c] word q (by simp [hc])
      rw [List.cons_append, e, e, wgo_tail r _ t h]
theorem words_triml : ∀ x : Str, words (triml x) = words x
  | [] => rfl
  | c :: r => by
    cases hc : bl c with
    | true => rw [triml, List.dropWhile_cons, if_pos hc]; exact (words_triml r).trans (wgo_skip hc).symm
    | false => rw [triml, List.dropWhile_cons, if_neg (by rw [hc]; decide)]
theorem trimr_tail (x : Str) : ∃ t, x = trimr x ++ t ∧ ∀ c ∈ t, bl c = true := by
  refine ⟨(x.reverse.takeWhile bl).reverse, ?_, fun c hc => ?_⟩
  · unfold trimr
    rw [← List.reverse_append, List.takeWhile_append_dropWhile, List.reverse_reverse]
  · rw [List.mem_reverse] at hc
    exact List.all_eq_true.1 (List.all_takeWhile (l := x.reverse) (p := bl)) c hc
theorem words_trimr (x : Str) : words (trimr x) = words x := by
  obtain ⟨t, h, ht⟩ := trimr_tail x
  have := wgo_tail (trimr x) [] t ht
  rw [← h] at this
  exact this.symm
theorem words_trim (x : Str) : words (triml (trimr x)) = words x := by rw [words_triml, words_trimr]

/-- cut at the first colon -/
def colon : Str → Option (Str × Str)
  | [] => none
  | c :: r => if c = 58 then some ([], r) else match colon r with
    | none => none
    | some p => some (c :: p.1, p.2)
theorem colon_none : ∀ {s : Str}, colon s = none → ∀ j, j < s.length → s.getD j 0 ≠ 58
  | [], _, j, hj => by simp at hj
  | c :: r, h, j, hj => by
    unfold colon at h
    by_cases hc : c = 58
    · rw [if_pos hc] at h; cases h
    · rw [if_neg hc] at h
      cases hr : colon r with
      | some p => rw [hr] at h; cases h
      | none =>
        cases j with
        | zero => exact hc
        | succ j => simpa using colon_none hr j (by simpa using hj)
theorem colon_some : ∀ {s : Str} {p : Str × Str}, colon s = some p → p.1.length < s.length ∧ s.getD p.1.length 0 = 58 ∧ (∀ j, j < p.1.length → s.getD j 0 ≠ 58) ∧ s.take p.1.length = p.1 ∧ s.drop (p.1.length + 1) = p.2
  | [], p, h => by simp [colon] at h
  | c :: r, p, h => by
    unfold colon at h
    by_cases hc : c = 58
    · rw [if_pos hc] at h; cases h; subst hc; simp
    · rw [if_neg hc] at h
      cases hr : colon r with
      | none => rw [hr] at h; cases h
      | some q =>
        rw [hr] at h
        cases h
        obtain ⟨h1, h2, h3, h4, h5⟩ := colon_some hr
        refine ⟨by simpa using h1, by simpa using h2, fun j hj => ?_, by simpa using h4, by simpa using h5⟩
        cases j with
        | zero => exact hc
        | succ j => simpa using h3 j (by simpa using hj)
/-- the rule that a text describes, and the fault -/
def parseR (s : Str) : Rl × Int := match colon s with
  | none => (([], []), 3)
  | some p => if chkR (words p.1, words p.2) = 0 then ((words p.1, words p.2), 0) else (([], []), chkR (words p.1, words p.2))
def ParsePost (s : Str) (w : World) (e : Ending) (w' : World) : Prop :=
  ∃ vt vn, e = .returned (.tuple #[.agg #[vt, vn], .int .i64 (parseR s).2]) ∧ SIn w' vt (parseR s).1.1 ∧ SIn w' vn (parseR s).1.2 ∧ Below w.heap.size w w'
theorem sin_nil (w : World) : SIn w (.slice none 0 0) [] := ⟨none, 0, rfl, Nat.le_refl _, Nat.zero_le _, fun x hx => absurd hx List.not_mem_nil, .inl rfl⟩
theorem parseR_none {s : Str} (h : colon s = none) : parseR s = (([], []), 3) := by unfold parseR; rw [h]
theorem parseR_ok {s : Str} {p : Str × Str} (h : colon s = some p) (k : chkR (words p.1, words p.2) = 0) : parseR s = ((words p.1, words p.2), 0) := by unfold parseR; rw [h]; simp only []; rw [if_pos k]
theorem parseR_bad {s : Str} {p : Str × Str} (h : colon s = some p) (k : chkR (words p.1, words p.2) ≠ 0) : parseR s = (([], []), chkR (words p.1, words p.2)) := by unfold parseR; rw [h]; simp only []; rw [if_neg k]

set_option maxHeartbeats 2000000 in
set_option maxRecDepth 100000 in
theorem parse_none (S : ByteArray) (w : World) (h : colon S.data.toList = none) :
    Calls Tryd.prog 8 #[.string S] w (ParsePost S.data.toList w) := by
  have SP : Hid (∀ W, Calls Tryd.prog 36 #[.string S, .int .u8 58] W fun e w' => e = .returned (.tuple #[.string S, .string (ByteArray.mk #[]), .bool false]) ∧ w' = W) := fun W => split_no S 58 W (fun j hj => colon_none h j (by rw [size_list]; exact hj))
  unfold ParsePost
  rw [parseR_none h]
  clear h
  go_enter Tryd.func8, Tryd.ntmps8
  go_wp2_with fail
  refine (SP.out _).mono ?_
  rintro e w' ⟨rfl, rfl⟩
  go_wp2
  (try simp only [Exit.inBlock, Exit.then])
  refine bodyPost_ret (v := .tuple #[.agg #[.slice none 0 0, .slice none 0 0], .int .i64 3]) ?_ rfl ⟨.slice none 0 0, .slice none 0 0, rfl, sin_nil _, sin_nil _, (Below.refl _ _).alloc (Nat.le_refl _) _⟩
  rw [results_cell_tmp rfl]; go_simp

theorem sin_set2 {w : World} {v : Value} {z : List Str} {k : Nat} {a a' : Option Addr} {n c n' c' : Nat} (h : SIn w v z) (st : StayR k (.slice a n c) (.slice a' n' c') w) (u1 u2 : Value) : SIn ((w.setCell ⟨k, 0, none⟩ u1).setCell ⟨k, 1, none⟩ u2) v z := by
  obtain ⟨a0, cap, h1, h2, h3, h4, h5⟩ := h
  refine ⟨a0, cap, h1, h2, h3, h4, ?_⟩
  by_cases h0 : z = []
  · exact .inl h0
  rcases h5 with h5 | ⟨b, off, h5, h6, h7⟩
  · exact .inl h5
  · have hne : k ≠ b := by
      rintro rfl
      have c0 := h7 0 (List.length_pos_iff.2 h0)
      have hb : w.heap[k]? = some (.cells #[.slice a n c, .slice a' n' c'] 24 (0, 0)) := st
      unfold World.cell? at c0
      rw [hb] at c0
      match off, c0 with
      | 0, c0 => simp at c0
      | 1, c0 => simp at c0
      | off + 2, c0 => simp at c0
    refine .inr ⟨b, off, h5, by simpa using h6, fun j hj => ?_⟩
    rw [World.cell?_setCell_far _ _ _ _ (by exact hne), World.cell?_setCell_far _ _ _ _ (by exact hne)]
    exact h7 j hj

set_option maxHeartbeats 4000000 in
set_option maxRecDepth 100000 in
theorem parse_some (S : ByteArray) (w : World) (hs : S.size ≤ 4294967296) (p : Str × Str) (h : colon S.data.toList = some p) :
    Calls Tryd.prog 8 #[.string S] w (ParsePost S.data.toList w) := by
  obtain ⟨h1, h2, h3, h4, h5⟩ := colon_some h
  rw [size_list] at h1
  have l1 : p.1.length ≤ 4294967296 := by omega
  have l2 : p.2.length ≤ 4294967296 := by rw [← h5, List.length_drop, size_list]; omega
  have SP : Hid (∀ W, Calls Tryd.prog 36 #[.string S, .int .u8 58] W fun e w' => e = .returned (.tuple #[.string (bs (triml (trimr p.1))), .string (bs (triml (trimr p.2))), .bool true]) ∧ Below W.heap.size W w') := fun W => by
    have := split_at S 58 p.1.length W (by omega) h1 h2 h3
    rw [h4, h5] at this
    exact this
  have WD : Hid (∀ (x : Str) W, x.length ≤ 4294967296 → Calls Tryd.prog 37 #[.string (bs (triml (trimr x)))] W fun e w' => ∃ v, e = .returned v ∧ SIn w' v (words x) ∧ Below W.heap.size W w') := fun x W hx => by
    have := words_any (bs (triml (trimr x))) W (by rw [bs_size]; have := triml_le (trimr x); have := trimr_le x; omega)
    rw [bs_list, words_trim] at this
    exact this
  have WD1 : Hid (∀ W, Calls Tryd.prog 37 #[.string (bs (triml (trimr p.1)))] W fun e w' => ∃ v, e = .returned v ∧ SIn w' v (words p.1) ∧ Below W.heap.size W w') := fun W => WD.out p.1 W l1
  have WD2 : Hid (∀ W, Calls Tryd.prog 37 #[.string (bs (triml (trimr p.2)))] W fun e w' => ∃ v, e = .returned v ∧ SIn w' v (words p.2) ∧ Below W.heap.size W w') := fun W => WD.out p.2 W l2
  have OK : Hid (chkR (words p.1, words p.2) = 0 → parseR S.data.toList = ((words p.1, words p.2), 0)) := fun k => parseR_ok h k
  have BAD : Hid (chkR (words p.1, words p.2) ≠ 0 → parseR S.data.toList = (([], []), chkR (words p.1, words p.2))) := fun k => parseR_bad h k
  unfold ParsePost
  clear WD h h1 h2 h3 h4 h5 l1 l2 hs
  generalize parseR S.data.toList = R at *
  generalize bs (triml (trimr p.1)) = y1 at *
  generalize bs (triml (trimr p.2)) = y2 at *
  generalize words p.1 = t at *
  generalize words p.2 = n at *
  have S0 := Lib.hid (stayR_new w (.slice none 0 0) (.slice none 0 0))
  have B0 : Hid (Below w.heap.size w (w.alloc (.cells #[.slice none 0 0, .slice none 0 0] 24))) := (Below.refl _ _).alloc (Nat.le_refl _) _
  go_enter Tryd.func8, Tryd.ntmps8
  go_wp2_with fail
  refine (SP.out _).mono ?_
  rintro e w1 ⟨rfl, b1⟩
  have S1 := Lib.hid (S0.out.later b1)
  have B1 := Lib.hid (B0.out.trans (b1.mono (by simp)))
  clear b1
  go_wp2_with fail
  refine (WD1.out _).mono ?_
  rintro e w2 ⟨v1, rfl, i1, b2⟩
  have S2 := Lib.hid (S1.out.later b2)
  have B2 := Lib.hid (B1.out.trans (b2.mono B1.out.size))
  have I2 := Lib.hid i1
  clear b2 i1
  go_wp2_with fail
  refine (WD2.out _).mono ?_
  rintro e w3 ⟨v2, rfl, i2, b3⟩
  have S3 := Lib.hid (S2.out.later b3)
  have B3 := Lib.hid (B2.out.trans (b3.mono B2.out.size))
  have I3 := Lib.hid (I2.out.later b3)
  have J3 := Lib.hid i2
  clear b3 i2
  obtain ⟨a1, c1, rfl⟩ := I3.out.shape
  obtain ⟨a2, c2, rfl⟩ := J3.out.shape
  have b4 : Below w3.heap.size w3 (w3.alloc (.cells #[.slice a1 t.length c1, .slice a2 n.length c2] 24)) := (Below.refl _ _).alloc (Nat.le_refl _) _
  have S4 := Lib.hid (S3.out.later b4)
  have B4 := Lib.hid (B3.out.trans (b4.mono B3.out.size))
  have I4 := Lib.hid (I3.out.later b4)
  have J4 := Lib.hid (J3.out.later b4)
  have K4 := Lib.hid (stayR_new w3 (.slice a1 t.length c1) (.slice a2 n.length c2))
  clear b4
  generalize t.length = lt at *
  generalize n.length = ln at *
  go_wp2_with fail
  refine (rcheck_any I4.out J4.out).mono ?_
  rintro e w5 ⟨rfl, b5⟩
  have S5 := Lib.hid (S4.out.later b5)
  have B5 := Lib.hid (B4.out.trans (b5.mono B4.out.size))
  have I5 := Lib.hid (I4.out.later b5)
  have J5 := Lib.hid (J4.out.later b5)
  have K5 := Lib.hid (K4.out.later b5)
  clear b5
  obtain ⟨k0, k1⟩ := K5.out.cells
  obtain ⟨s0, s1⟩ := S5.out.cells
  obtain ⟨f0, f1⟩ := S5.out.thaw
  by_cases hc : chkR (t, n) = 0
  · have E := Lib.hid (OK.out hc)
    rw [hc]
    clear hc
    go_wp2
    (try simp only [Exit.inBlock, Exit.then])
    refine bodyPost_ret (v := .tuple #[.agg #[.slice a1 lt c1, .slice a2 ln c2], .int .i64 0]) ?_ rfl ⟨.slice a1 lt c1, .slice a2 ln c2, by rw [E.out], ?_, ?_, (B5.out.setCell (Nat.le_refl _) _).setCell (Nat.le_refl _) _⟩
    · rw [results_cell_tmp rfl]; go_simp
    · rw [E.out]; exact sin_set2 I5.out S5.out _ _
    · rw [E.out]; exact sin_set2 J5.out S5.out _ _
  · have hne : (chkR (t, n) != 0) = true := by rw [bne_iff_ne]; exact hc
    have E := Lib.hid (BAD.out hc)
    clear hc
    go_wp2
    (try simp only [Exit.inBlock, Exit.then])
    refine bodyPost_ret (v := .tuple #[.agg #[.slice none 0 0, .slice none 0 0], .int .i64 (chkR (t, n))]) ?_ rfl ⟨.slice none 0 0, .slice none 0 0, by rw [E.out], ?_, ?_, (B5.out.setCell (Nat.le_refl _) _).setCell (Nat.le_refl _) _⟩
    · rw [results_cell_tmp rfl]; go_simp
    · rw [E.out]; exact sin_nil _
    · rw [E.out]; exact sin_nil _
theorem parse_any (S : ByteArray) (w : World) (hs : S.size ≤ 4294967296) : Calls Tryd.prog 8 #[.string S] w (ParsePost S.data.toList w) := by
  cases h : colon S.data.toList with
  | none => exact parse_none S w h
  | some p => exact parse_some S w hs p h

theorem alive_chk : chkR ([[97]], [[98]]) = 0 := by
  unfold chkR
  rw [uniq_self (List.pairwise_singleton _ _), uniq_self (List.pairwise_singleton _ _)]
  decide
theorem alive_parse : parseR [97, 32, 58, 32, 98] = (([[97]], [[98]]), 0) := by
  have h : colon [97, 32, 58, 32, 98] = some ([97, 32], [32, 98]) := by decide
  have h1 : words [97, 32] = [[97]] := by decide
  have h2 : words [32, 98] = [[98]] := by decide
  have := parseR_ok h (by rw [h1, h2]; exact alive_chk)
  rw [h1, h2] at this
  exact this
set_option maxHeartbeats 1000000 in
theorem rules_true (w : World) : Calls Tryd.prog 16 #[] w fun e w' => e = .returned (.bool true) ∧ Below w.heap.size w w' := by
  have HJ : Hid (Calls Tryd.prog 8 #[.string (ByteArray.mk #[97, 32, 58, 32, 98])] w (ParsePost [97, 32, 58, 32, 98] w)) := parse_any (ByteArray.mk #[97, 32, 58, 32, 98]) w (by decide)
  go_enter Tryd.func16, Tryd.ntmps16
  go_wp2_with fail
  refine HJ.out.mono ?_
  rintro e w' ⟨v1, v2, rfl, i1, i2, h2⟩
  rw [alive_parse] at i1 i2 ⊢
  obtain ⟨a1, c1, rfl⟩ := i1.shape
  obtain ⟨a2, c2, rfl⟩ := i2.shape
  have H2 := Lib.hid (h2.alloc h2.size (.cells #[.slice a1 1 c1, .slice a2 1 c2] 24)); clear h2 i1 i2
  simp only [List.length_cons, List.length_nil, Nat.zero_add]
  go_wp2
  go_ret
  exact ⟨rfl, H2.out⟩
end Go.Proofs.YtdencbkepiaigaaDoor
