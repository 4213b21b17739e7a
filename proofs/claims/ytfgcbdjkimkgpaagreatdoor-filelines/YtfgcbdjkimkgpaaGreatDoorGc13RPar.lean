/-
  What package rule's Parse answers; that package rule is alive. Condition: the string is shorter than 2^32 bytes.
  Macros in another order, and with one more: in plain words. No condition.
  slices.Clone of macros. Condition: at most 1048576 macros.
  Package macro's Flat; slices.Equal of the same macros. Condition: the macros' strings have at most 2^32 bytes.
  The law MacroUses holds: the walk. Condition: at most 1048576 macros, strings of at most 2^32 bytes.
-/
import Derived.Test.YtfgcbdjkimkgpaaGreatDoorGc12NApp
import Derived.Test.YtfgcbdjkimkgpaaGreatDoorGc9LRa
import Derived.Laws.ResultCell
import Derived.Test.YtfgcbdjkimkgpaaGreatDoorGc6MRep
import Derived.Test.YtfgcbdjkimkgpaaGreatDoorGc5MBy
import Derived.Laws.StructEq
import Derived.Deep.RegionHeld3
namespace Go.Proofs.YtfgcbdjkimkgpaaGreatDoor
set_option maxRecDepth 100000
set_option linter.unusedVariables false
open Go.ChangeShapes Go.WideShapes Go.ChangeAt Go.RowKit

theorem wgo_blank : ∀ (t word : Str), (∀ c ∈ t, bl c = true) → wgo word t = wgo word []
  | [], _, _ => rfl
  | c :: r, word, h => by
    have hc := h c (List.mem_cons_self ..)
    have ih := wgo_blank r [] (fun d hd => h d (List.mem_cons_of_mem _ hd))
    by_cases h0 : word = []
    · subst h0; rw [wgo_skip hc, ih]
    · rw [wgo_cut h0 hc, ih, wgo_end h0, wgo, if_pos rfl]
theorem wgo_tail : ∀ (x word t : Str), (∀ c ∈ t, bl c = true) → wgo word (x ++ t) = wgo word x
  | [], word, t, h => wgo_blank t word h
  | c :: r, word, t, h => by
    cases hc : bl c with
    | true =>
      by_cases h0 : word = []
      · subst h0; rw [List.cons_append, wgo_skip hc, wgo_skip hc, wgo_tail r [] t h]
      · rw [List.cons_append, wgo_cut h0 hc, wgo_cut h0 hc, wgo_tail r [] t h]
    | false =>
      have e : ∀ q, wgo word (c :: q) = wgo (word ++ [c]) q := fun q => wgo_nb [c] word q (by simp [hc])
      rw [List.cons_append, e, e, wgo_tail r _ t h]
theorem words_triml : ∀ x : Str, words (triml x) = words x
  | [] => rfl
  | c :: r => by
    cases hc : bl c with
    | true => rw [triml, List.dropWhile_cons, if_pos hc]; exact (words_triml r).trans (wgo_skip hc).symm
    | false => rw [triml, List.dropWhile_cons, if_neg (by rw [hc]; decide)]
theorem trimr_tail (x : Str) : ∃ t, x = trimr x ++ t ∧ ∀ c ∈ t, bl c = true := by
  refine ⟨(x.reverse.takeWhile bl).reverse, ?_, fun c hc => ?_⟩
  · unfold trimr
    rw [← List.reverse_append, List.takeWhile_append_dropWhile, List.reverse_reverse]
  · rw [List.mem_reverse] at hc
    exact List.all_eq_true.1 (List.all_takeWhile (l := x.reverse) (p := bl)) c hc
theorem words_trimr (x : Str) : words (trimr x) = words x := by
  obtain ⟨t, h, ht⟩ := trimr_tail x
  have := wgo_tail (trimr x) [] t ht
  rw [← h] at this
  exact this.symm
theorem words_trim (x : Str) : words (triml (trimr x)) = words x := by rw [words_triml, words_trimr]

/-- cut at the first colon -/
def colon : Str → Option (Str × Str)
  | [] => none
  | c :: r => if c = 58 then some ([], r) else match colon r with
    | none => none
    | some p => some (c :: p.1, p.2)
theorem colon_none : ∀ {s : Str}, colon s = none → ∀ j, j < s.length → s.getD j 0 ≠ 58
  | [], _, j, hj => by simp at hj
  | c :: r, h, j, hj => by
    unfold colon at h
    by_cases hc : c = 58
    · rw [if_pos hc] at h; cases h
    · rw [if_neg hc] at h
      cases hr : colon r with
      | some p => rw [hr] at h; cases h
      | none =>
        cases j with
        | zero => exact hc
        | succ j => simpa using colon_none hr j (by simpa using hj)
theorem colon_some : ∀ {s : Str} {p : Str × Str}, colon s = some p → p.1.length < s.length ∧ s.getD p.1.length 0 = 58 ∧ (∀ j, j < p.1.length → s.getD j 0 ≠ 58) ∧ s.take p.1.length = p.1 ∧ s.drop (p.1.length + 1) = p.2
  | [], p, h => by simp [colon] at h
  | c :: r, p, h => by
    unfold colon at h
    by_cases hc : c = 58
    · rw [if_pos hc] at h; cases h; subst hc; simp
    · rw [if_neg hc] at h
      cases hr : colon r with
      | none => rw [hr] at h; cases h
      | some q =>
        rw [hr] at h
        cases h
        obtain ⟨h1, h2, h3, h4, h5⟩ := colon_some hr
        refine ⟨by simpa using h1, by simpa using h2, fun j hj => ?_, by simpa using h4, by simpa using h5⟩
        cases j with
        | zero => exact hc
        | succ j => simpa using h3 j (by simpa using hj)
/-- the rule that a text describes, and the fault -/
def parseR (s : Str) : Rl × Int := match colon s with
  | none => (([], []), 3)
  | some p => if chkR (words p.1, words p.2) = 0 then ((words p.1, words p.2), 0) else (([], []), chkR (words p.1, words p.2))
def ParsePost (s : Str) (w : World) (e : Ending) (w' : World) : Prop :=
  ∃ vt vn, e = .returned (.tuple #[.agg #[vt, vn], .int .i64 (parseR s).2]) ∧ SIn w' vt (parseR s).1.1 ∧ SIn w' vn (parseR s).1.2 ∧ Below w.heap.size w w'
theorem sin_nil (w : World) : SIn w (.slice none 0 0) [] := ⟨none, 0, rfl, Nat.le_refl _, Nat.zero_le _, fun x hx => absurd hx List.not_mem_nil, .inl rfl⟩
theorem parseR_none {s : Str} (h : colon s = none) : parseR s = (([], []), 3) := by unfold parseR; rw [h]
theorem parseR_ok {s : Str} {p : Str × Str} (h : colon s = some p) (k : chkR (words p.1, words p.2) = 0) : parseR s = ((words p.1, words p.2), 0) := by unfold parseR; rw [h]; simp only []; rw [if_pos k]
theorem parseR_bad {s : Str} {p : Str × Str} (h : colon s = some p) (k : chkR (words p.1, words p.2) ≠ 0) : parseR s = (([], []), chkR (words p.1, words p.2)) := by unfold parseR; rw [h]; simp only []; rw [if_neg k]

set_option maxHeartbeats 2000000 in
set_option maxRecDepth 100000 in
theorem parse_none (S : ByteArray) (w : World) (h : colon S.data.toList = none) :
    Calls Tryz.prog 85 #[.string S] w (ParsePost S.data.toList w) := by
  have SP : Hid (∀ W, Calls Tryz.prog 82 #[.string S, .int .u8 58] W fun e w' => e = .returned (.tuple #[.string S, .string (ByteArray.mk #[]), .bool false]) ∧ w' = W) := fun W => split_no S 58 W (fun j hj => colon_none h j (by rw [size_list]; exact hj))
  unfold ParsePost
  rw [parseR_none h]
  clear h
  go_enter Tryz.func85, Tryz.ntmps85
  go_wp2_with fail
  refine (SP.out _).mono ?_
  rintro e w' ⟨rfl, rfl⟩
  go_wp2
  (try simp only [Exit.inBlock, Exit.then])
  refine bodyPost_ret (v := .tuple #[.agg #[.slice none 0 0, .slice none 0 0], .int .i64 3]) ?_ rfl ⟨.slice none 0 0, .slice none 0 0, rfl, sin_nil _, sin_nil _, (Below.refl _ _).alloc (Nat.le_refl _) _⟩
  rw [results_cell_tmp rfl]; go_simp

theorem sin_set2 {w : World} {v : Value} {z : List Str} {k : Nat} {a a' : Option Addr} {n c n' c' : Nat} (h : SIn w v z) (st : StayR k (.slice a n c) (.slice a' n' c') w) (u1 u2 : Value) : SIn ((w.setCell ⟨k, 0, none⟩ u1).setCell ⟨k, 1, none⟩ u2) v z := by
  obtain ⟨a0, cap, h1, h2, h3, h4, h5⟩ := h
  refine ⟨a0, cap, h1, h2, h3, h4, ?_⟩
  by_cases h0 : z = []
  · exact .inl h0
  rcases h5 with h5 | ⟨b, off, h5, h6, h7⟩
  · exact .inl h5
  · have hne : k ≠ b := by
      rintro rfl
      have c0 := h7 0 (List.length_pos_iff.2 h0)
      have hb : w.heap[k]? = some (.cells #[.slice a n c, .slice a' n' c'] 82 (0, 0)) := st
      unfold World.cell? at c0
      rw [hb] at c0
      match off, c0 with
      | 0, c0 => simp at c0
      | 1, c0 => simp at c0
      | off + 2, c0 => simp at c0
    refine .inr ⟨b, off, h5, by simpa using h6, fun j hj => ?_⟩
    rw [World.cell?_setCell_far _ _ _ _ (by exact hne), World.cell?_setCell_far _ _ _ _ (by exact hne)]
    exact h7 j hj

set_option maxHeartbeats 4000000 in
set_option maxRecDepth 100000 in
theorem parse_some (S : ByteArray) (w : World) (hs : S.size ≤ 4294967296) (p : Str × Str) (h : colon S.data.toList = some p) :
    Calls Tryz.prog 85 #[.string S] w (ParsePost S.data.toList w) := by
  obtain ⟨h1, h2, h3, h4, h5⟩ := colon_some h
  rw [size_list] at h1
  have l1 : p.1.length ≤ 4294967296 := by omega
  have l2 : p.2.length ≤ 4294967296 := by rw [← h5, List.length_drop, size_list]; omega
  have SP : Hid (∀ W, Calls Tryz.prog 82 #[.string S, .int .u8 58] W fun e w' => e = .returned (.tuple #[.string (bs (triml (trimr p.1))), .string (bs (triml (trimr p.2))), .bool true]) ∧ Below W.heap.size W w') := fun W => by
    have := split_at S 58 p.1.length W (by omega) h1 h2 h3
    rw [h4, h5] at this
    exact this
  have WD : Hid (∀ (x : Str) W, x.length ≤ 4294967296 → Calls Tryz.prog 102 #[.string (bs (triml (trimr x)))] W fun e w' => ∃ v, e = .returned v ∧ SIn w' v (words x) ∧ Below W.heap.size W w') := fun x W hx => by
    have := words_any (bs (triml (trimr x))) W (by rw [bs_size]; have := triml_le (trimr x); have := trimr_le x; omega)
    rw [bs_list, words_trim] at this
    exact this
  have WD1 : Hid (∀ W, Calls Tryz.prog 102 #[.string (bs (triml (trimr p.1)))] W fun e w' => ∃ v, e = .returned v ∧ SIn w' v (words p.1) ∧ Below W.heap.size W w') := fun W => WD.out p.1 W l1
  have WD2 : Hid (∀ W, Calls Tryz.prog 102 #[.string (bs (triml (trimr p.2)))] W fun e w' => ∃ v, e = .returned v ∧ SIn w' v (words p.2) ∧ Below W.heap.size W w') := fun W => WD.out p.2 W l2
  have OK : Hid (chkR (words p.1, words p.2) = 0 → parseR S.data.toList = ((words p.1, words p.2), 0)) := fun k => parseR_ok h k
  have BAD : Hid (chkR (words p.1, words p.2) ≠ 0 → parseR S.data.toList = (([], []), chkR (words p.1, words p.2))) := fun k => parseR_bad h k
  unfold ParsePost
  clear WD h h1 h2 h3 h4 h5 l1 l2 hs
  generalize parseR S.data.toList = R at *
  generalize bs (triml (trimr p.1)) = y1 at *
  generalize bs (triml (trimr p.2)) = y2 at *
  generalize words p.1 = t at *
  generalize words p.2 = n at *
  have S0 := Lib.hid (stayR_new w (.slice none 0 0) (.slice none 0 0))
  have B0 : Hid (Below w.heap.size w (w.alloc (.cells #[.slice none 0 0, .slice none 0 0] 82))) := (Below.refl _ _).alloc (Nat.le_refl _) _
  go_enter Tryz.func85, Tryz.ntmps85
  go_wp2_with fail
  refine (SP.out _).mono ?_
  rintro e w1 ⟨rfl, b1⟩
  have S1 := Lib.hid (S0.out.later b1)
  have B1 := Lib.hid (B0.out.trans (b1.mono (by simp)))
  clear b1
  go_wp2_with fail
  refine (WD1.out _).mono ?_
  rintro e w2 ⟨v1, rfl, i1, b2⟩
  have S2 := Lib.hid (S1.out.later b2)
  have B2 := Lib.hid (B1.out.trans (b2.mono B1.out.size))
  have I2 := Lib.hid i1
  clear b2 i1
  go_wp2_with fail
  refine (WD2.out _).mono ?_
  rintro e w3 ⟨v2, rfl, i2, b3⟩
  have S3 := Lib.hid (S2.out.later b3)
  have B3 := Lib.hid (B2.out.trans (b3.mono B2.out.size))
  have I3 := Lib.hid (I2.out.later b3)
  have J3 := Lib.hid i2
  clear b3 i2
  obtain ⟨a1, c1, rfl⟩ := I3.out.shape
  obtain ⟨a2, c2, rfl⟩ := J3.out.shape
  have b4 : Below w3.heap.size w3 (w3.alloc (.cells #[.slice a1 t.length c1, .slice a2 n.length c2] 82)) := (Below.refl _ _).alloc (Nat.le_refl _) _
  have S4 := Lib.hid (S3.out.later b4)
  have B4 := Lib.hid (B3.out.trans (b4.mono B3.out.size))
  have I4 := Lib.hid (I3.out.later b4)
  have J4 := Lib.hid (J3.out.later b4)
  have K4 := Lib.hid (stayR_new w3 (.slice a1 t.length c1) (.slice a2 n.length c2))
  clear b4
  generalize t.length = lt at *
  generalize n.length = ln at *
  go_wp2_with fail
  refine (rcheck_any I4.out J4.out).mono ?_
  rintro e w5 ⟨rfl, b5⟩
  have S5 := Lib.hid (S4.out.later b5)
  have B5 := Lib.hid (B4.out.trans (b5.mono B4.out.size))
  have I5 := Lib.hid (I4.out.later b5)
  have J5 := Lib.hid (J4.out.later b5)
  have K5 := Lib.hid (K4.out.later b5)
  clear b5
  obtain ⟨k0, k1⟩ := K5.out.cells
  obtain ⟨s0, s1⟩ := S5.out.cells
  obtain ⟨f0, f1⟩ := S5.out.thaw
  by_cases hc : chkR (t, n) = 0
  · have E := Lib.hid (OK.out hc)
    rw [hc]
    clear hc
    go_wp2
    (try simp only [Exit.inBlock, Exit.then])
    refine bodyPost_ret (v := .tuple #[.agg #[.slice a1 lt c1, .slice a2 ln c2], .int .i64 0]) ?_ rfl ⟨.slice a1 lt c1, .slice a2 ln c2, by rw [E.out], ?_, ?_, (B5.out.setCell (Nat.le_refl _) _).setCell (Nat.le_refl _) _⟩
    · rw [results_cell_tmp rfl]; go_simp
    · rw [E.out]; exact sin_set2 I5.out S5.out _ _
    · rw [E.out]; exact sin_set2 J5.out S5.out _ _
  · have hne : (chkR (t, n) != 0) = true := by rw [bne_iff_ne]; exact hc
    have E := Lib.hid (BAD.out hc)
    clear hc
    go_wp2
    (try simp only [Exit.inBlock, Exit.then])
    refine bodyPost_ret (v := .tuple #[.agg #[.slice none 0 0, .slice none 0 0], .int .i64 (chkR (t, n))]) ?_ rfl ⟨.slice none 0 0, .slice none 0 0, by rw [E.out], ?_, ?_, (B5.out.setCell (Nat.le_refl _) _).setCell (Nat.le_refl _) _⟩
    · rw [results_cell_tmp rfl]; go_simp
    · rw [E.out]; exact sin_nil _
    · rw [E.out]; exact sin_nil _
theorem parse_any (S : ByteArray) (w : World) (hs : S.size ≤ 4294967296) : Calls Tryz.prog 85 #[.string S] w (ParsePost S.data.toList w) := by
  cases h : colon S.data.toList with
  | none => exact parse_none S w h
  | some p => exact parse_some S w hs p h

theorem alive_chk : chkR ([[97]], [[98]]) = 0 := by
  unfold chkR
  rw [uniq_self (List.pairwise_singleton _ _), uniq_self (List.pairwise_singleton _ _)]
  decide
theorem alive_parse : parseR [97, 32, 58, 32, 98] = (([[97]], [[98]]), 0) := by
  have h : colon [97, 32, 58, 32, 98] = some ([97, 32], [32, 98]) := by decide
  have h1 : words [97, 32] = [[97]] := by decide
  have h2 : words [32, 98] = [[98]] := by decide
  have := parseR_ok h (by rw [h1, h2]; exact alive_chk)
  rw [h1, h2] at this
  exact this
end Go.Proofs.YtfgcbdjkimkgpaaGreatDoor
namespace Go.Proofs.YtfgcbdjkimkgpaaGreatDoor
set_option maxRecDepth 100000
set_option linter.unusedVariables false

theorem names_perm {z y : List Mc} (h : y.Perm z) (hd : (names z).Nodup) : (names y).Nodup := (List.Perm.map (Prod.fst (α := Str) (β := Str)) h).nodup_iff.2 hd
theorem look_perm {z y : List Mc} (h : y.Perm z) (hd : (names z).Nodup) (x : Str) : look y x = look z x := by
  cases e : look z x with
  | some v =>
    have := look_of (names_perm h hd) (m := (x, v)) (h.mem_iff.2 (look_mem e))
    exact this
  | none =>
    cases e2 : look y x with
    | none => rfl
    | some v =>
      have := look_of hd (m := (x, v)) (h.mem_iff.1 (look_mem e2))
      rw [show look z x = some v from this] at e
      cases e
theorem ev_perm {z y : List Mc} (h : y.Perm z) (hd : (names z).Nodup) : ∀ k : Nat, ev y k = ev z k
  | 0 => rfl
  | k + 1 => by
    funext x
    rw [ev, ev, look_perm h hd, ev_perm h hd k]
theorem Fine.perm {z y : List Mc} (h : y.Perm z) (F : Fine z) : Fine y := by
  obtain ⟨h1, h2, h3, k, h4⟩ := F
  exact ⟨by rw [h.length_eq]; exact h1, names_perm h h2, fun m hm => h3 m (h.mem_iff.1 hm), k, fun m hm => by rw [ev_perm h h2]; exact h4 m (h.mem_iff.1 hm)⟩
theorem Exp.perm {z y : List Mc} {s t : Str} (h : y.Perm z) (E : Exp z s t) : Exp y s t := by
  obtain ⟨F, k, e⟩ := E
  exact ⟨F.perm h, k, by rw [ev_perm h F.2.1]; exact e⟩
theorem look_more {z : List Mc} (x : Mc) {n v : Str} (h : look z n = some v) : look (z ++ [x]) n = some v := by
  unfold look at h ⊢
  rw [List.find?_append]
  cases e : z.find? fun m => m.1 == n with
  | none => rw [e] at h; cases h
  | some m => rw [e] at h; exact h
theorem ev_more {z : List Mc} (x : Mc) : ∀ (k : Nat) (n t : Str), ev z k n = some t → ev (z ++ [x]) k n = some t
  | 0, n, t, h => by cases h
  | k + 1, n, t, h => by
    rw [ev] at h ⊢
    cases hl : look z n with
    | none => rw [hl] at h; cases h
    | some v => rw [hl] at h; rw [look_more x hl]; rw [Option.bind_some] at h ⊢; exact val_mono (ev_more x k) h
theorem Exp.more {z : List Mc} {x : Mc} {s a b : Str} (h : Exp z s a) (g : Exp (z ++ [x]) s b) : a = b := by
  obtain ⟨_, k, h⟩ := h
  obtain ⟨F, j, g⟩ := g
  exact Exp.one ⟨F, k, val_mono (ev_more x k) h⟩ ⟨F, j, g⟩
end Go.Proofs.YtfgcbdjkimkgpaaGreatDoor
namespace Go.Proofs.YtfgcbdjkimkgpaaGreatDoor
set_option maxRecDepth 100000
set_option linter.unusedVariables false
open Go.ChangeShapes Go.WideShapes Go.ChangeAt Go.RowKit

theorem mcCells_inv : ∀ (z : List Mc) (j : Nat) (u : Value), (mcCells z)[j]? = some u → ∃ k x, z[k]? = some x ∧ ((j = k * 2 ∧ u = .string (bs x.1)) ∨ (j = k * 2 + 1 ∧ u = .string (bs x.2)))
  | [], j, u, h => by simp [mcCells] at h
  | y :: t, 0, u, h => by simp [mcCells, encMc] at h; exact ⟨0, y, rfl, .inl ⟨rfl, h.symm⟩⟩
  | y :: t, 1, u, h => by simp [mcCells, encMc] at h; exact ⟨0, y, rfl, .inr ⟨rfl, h.symm⟩⟩
  | y :: t, j + 2, u, h => by
    have e : mcCells (y :: t) = .string (bs y.1) :: .string (bs y.2) :: mcCells t := by simp [mcCells, encMc]
    rw [e] at h
    obtain ⟨k, x, h1, h2⟩ := mcCells_inv t j u (by simpa using h)
    refine ⟨k + 1, x, by simpa using h1, ?_⟩
    rcases h2 with ⟨h2, h3⟩ | ⟨h2, h3⟩
    · exact .inl ⟨by omega, h3⟩
    · exact .inr ⟨by omega, h3⟩
theorem mcCells_one (z : List Mc) : ∀ u ∈ mcCells z, u.oneCell' = true := by
  intro u hu
  obtain ⟨j, hj⟩ := List.mem_iff_getElem?.1 hu
  obtain ⟨k, x, _, (⟨_, rfl⟩ | ⟨_, rfl⟩)⟩ := mcCells_inv z j u hj <;> rfl
theorem mcCells_set : ∀ (p : List Mc) (i : Nat) (x y : Str), i < p.length → mcCells (p.set i (x, y)) = ((mcCells p).set (i * 2) (.string (bs x))).set (i * 2 + 1) (.string (bs y))
  | [], i, x, y, h => by simp at h
  | a :: t, 0, x, y, h => by simp [mcCells, encMc]
  | a :: t, i + 1, x, y, h => by
    have ih := mcCells_set t i x y (by simpa using h)
    have e : ∀ (a : Mc) (t : List Mc), mcCells (a :: t) = .string (bs a.1) :: .string (bs a.2) :: mcCells t := fun a t => by simp [mcCells, encMc]
    rw [List.set_cons_succ, e, e, ih, show (i + 1) * 2 = (i * 2) + 1 + 1 by omega, List.set_cons_succ, List.set_cons_succ, List.set_cons_succ, List.set_cons_succ]
theorem MO.cell {B g n cap : Nat} {p : List Mc} {w : World} (h : MO B (.slice (some ⟨g, 0, none⟩) n cap) p w) {k : Nat} (hk : k < p.length) : w.cell? ⟨g, k * 2, none⟩ = some (.string (bs (nm p k))) ∧ w.cell? ⟨g, k * 2 + 1, none⟩ = some (.string (bs (vl p k))) := by
  have hc := World.ownsRow.cells h (g := g) rfl
  obtain ⟨h1, h2⟩ := mcCells_at p k _ (at_some hk)
  have e1 := hc _ _ h1
  have e2 := hc _ _ h2
  rw [add_off] at e1 e2
  exact ⟨e1, e2⟩
theorem MO.put {B g cap : Nat} {p : List Mc} {w : World} (h : MO B (.slice (some ⟨g, 0, none⟩) p.length cap) p w) {k : Nat} (hk : k < p.length) (x y : Str) :
    MO B (.slice (some ⟨g, 0, none⟩) p.length cap) (p.set k (x, y)) ((w.setCell ⟨g, k * 2, none⟩ (.string (bs x))).setCell ⟨g, k * 2 + 1, none⟩ (.string (bs y))) := by
  unfold MO at h ⊢
  rw [List.length_set, mcCells_set p k x y hk]
  have h1 := (h.stored (k * 2) (.string (bs x))).1
  exact (h1.stored (k * 2 + 1) (.string (bs y))).1
theorem McIn.cells {w : World} {b off n cap : Nat} {z : List Mc} (hc : ∀ k x, z[k]? = some x → w.cell? ⟨b, off + k * 2, none⟩ = some (.string (bs x.1)) ∧ w.cell? ⟨b, off + k * 2 + 1, none⟩ = some (.string (bs x.2))) :
    ∀ j u, (mcCells z)[j]? = some u → w.cell? ⟨b, off + j, none⟩ = some u := by
  intro j u hj
  obtain ⟨k, x, h1, (⟨rfl, rfl⟩ | ⟨rfl, rfl⟩)⟩ := mcCells_inv z j u hj
  · exact (hc k x h1).1
  · exact (hc k x h1).2
end Go.Proofs.YtfgcbdjkimkgpaaGreatDoor
namespace Go.Proofs.YtfgcbdjkimkgpaaGreatDoor
set_option maxRecDepth 100000
set_option linter.unusedVariables false
open Go.ChangeShapes Go.WideShapes Go.ChangeAt Go.RowKit

set_option maxHeartbeats 1000000 in
theorem eqm_same (z : List Mc) (v u : Value) (w : World) (hv : McIn w v z) (hu : McIn w u z) :
    Calls Tryz.prog 56 #[v, u] w fun e w' => e = .returned (.bool true) ∧ Below w.heap.size w w' := by
  have hn : z.length ≤ 8796093022208 := by obtain ⟨_, _, _, _, _, h4, _⟩ := hv; exact h4
  rcases hv.open with ⟨rfl, a, cap, rfl⟩ | ⟨hp, b, off, cap, rfl, hcap, hlt, hc⟩
  · rcases hu.open with ⟨_, a2, cap2, rfl⟩ | ⟨hp, _⟩
    · clear hv hu
      go_enter Tryz.func56, Tryz.ntmps56
      go_wp2_with fail
      go_rounds 1
      go_ret
      exact ⟨rfl, Below.refl _ _⟩
    · exact absurd hp (by simp)
  · rcases hu.open with ⟨rfl, _⟩ | ⟨_, b2, off2, cap2, rfl, hcap2, hlt2, hc2⟩
    · exact absurd hp (by simp)
    · have H1 : Hid (∀ k, k < z.length → w.cell? ⟨b, off + k * 2, none⟩ = some (.string (bs (nm z k))) ∧ w.cell? ⟨b, off + k * 2 + 1, none⟩ = some (.string (bs (vl z k)))) := fun k hk => hc k _ (at_some hk)
      have H2 : Hid (∀ k, k < z.length → w.cell? ⟨b2, off2 + k * 2, none⟩ = some (.string (bs (nm z k))) ∧ w.cell? ⟨b2, off2 + k * 2 + 1, none⟩ = some (.string (bs (vl z k)))) := fun k hk => hc2 k _ (at_some hk)
      have BB : Hid (∀ a : Str, ((bs a).toList == (bs a).toList) = true) := fun a => by simp
      clear hv hu hc hc2 hlt hlt2
      generalize nm z = f at *
      generalize vl z = g at *
      go_enter Tryz.func56, Tryz.ntmps56
      go_wp2_with fail
      go_loopw [13] (fun i wr => ∃ k : Nat, k ≤ z.length ∧ i = .int .i64 k ∧ ∃ m, wr = w.drewN m) (fun i _ => z.length - (intOf i).toNat)
      case atStart => exact ⟨0, Nat.zero_le _, rfl, 0, rfl⟩
      case round =>
        obtain ⟨k, hk, rfl, m, rfl⟩ := hrel
        by_cases hkl : k < z.length
        · obtain ⟨c1, c2⟩ := H1.out k hkl
          obtain ⟨c3, c4⟩ := H2.out k hkl
          have e1 := BB.out (f k)
          have e2 := BB.out (g k)
          go_wp2_with fail
          go_quiet (fail)
          go_wp2
          go_roundw
          case rel => exact ⟨k + 1, by omega, by go_num, _, rfl⟩
          case measure => simp [intOf]; omega
        · go_wp2
          go_ret
          exact ⟨rfl, below_drewN (Below.refl _ _) _⟩

def flatL (f : Str → Option Str) (z : List Mc) : List Mc := z.map fun m => (m.1, (f m.1).getD [])
theorem flatL_at (f : Str → Option Str) {z : List Mc} {k : Nat} (h : k < z.length) : (flatL f z).take (k + 1) = (flatL f z).take k ++ [(nm z k, (f (nm z k)).getD [])] := by
  unfold flatL
  rw [List.take_add_one, List.getElem?_map, at_some h]; rfl
theorem zeros_row (n : Nat) : (madeCells (Value.agg #[.string ByteArray.empty, .string ByteArray.empty]).cells (n * 2)).toList = mcCells (List.replicate n ([], [])) := by
  have h1 : (madeCells (Value.agg #[.string ByteArray.empty, .string ByteArray.empty]).cells (n * 2)).toList = List.replicate (n * 2) (.string ByteArray.empty) := by
    rw [List.eq_replicate_iff]
    refine ⟨by simp [madeCells], fun b hb => ?_⟩
    obtain ⟨j, hj⟩ := List.mem_iff_getElem?.1 hb
    simp [madeCells, Value.cells] at hj
    obtain ⟨i, _, h2⟩ := hj
    rw [← h2]
    rcases Nat.mod_two_eq_zero_or_one i with e | e <;> simp [e]
  have h2 : mcCells (List.replicate n ([], [])) = List.replicate (n * 2) (.string ByteArray.empty) := by
    rw [List.eq_replicate_iff]
    refine ⟨by rw [mcCells_length, List.length_replicate], fun b hb => ?_⟩
    obtain ⟨j, hj⟩ := List.mem_iff_getElem?.1 hb
    obtain ⟨k, x, hx, (⟨_, rfl⟩ | ⟨_, rfl⟩)⟩ := mcCells_inv _ j b hj <;> (have := List.eq_of_mem_replicate (List.mem_of_getElem? hx); subst this; rfl)
  rw [h1, h2]
/-- what Flat hands back -/
def FPost (z : List Mc) (w : World) (e : Ending) (w' : World) : Prop :=
  Below w.heap.size w w' ∧ ((Fine z ∧ ∃ o f v, (∀ m, m ∈ o ↔ m ∈ z) ∧ FE z o f ∧ McIn w' v (flatL f z) ∧ e = .returned (.tuple #[v, .int .i64 0])) ∨ ∃ E, XErr z E ∧ e = .returned (.tuple #[.slice none 0 0, .int .i64 E]))
set_option maxHeartbeats 4000000 in
set_option maxRecDepth 100000 in
theorem flat_any (z : List Mc) (v : Value) (w : World) (h : McIn w v z) (hx : ∀ m ∈ z, m.1.length ≤ maxLen ∧ m.2.length ≤ 4294967296) :
    Calls Tryz.prog 50 #[v] w (FPost z w) := by
  have AL := Lib.hid (all_any z v w h hx)
  have HM := Lib.hid h
  have HX := Lib.hid hx
  clear hx
  obtain ⟨a, cap, rfl, _⟩ := h
  go_enter Tryz.func50, Tryz.ntmps50
  go_wp2_with fail
  refine AL.out.mono ?_
  rintro e w1 ⟨hb, (⟨hF, o, f, mb, n, ho, hE, hM, hmb, rfl⟩ | ⟨E, hE, rfl⟩)⟩
  · have B1 := Lib.hid hb; have FF := Lib.hid hF; have HO := Lib.hid ho; have HE := Lib.hid hE; have MB := Lib.hid hM
    have MZ := Lib.hid (HM.out.later hb)
    have ZL : Hid (z.length ≤ 40) := hF.1
    have zl := hF.1
    obtain ⟨i0, hi, hz0, hz1, hz2⟩ := info_parts infoMc
    obtain ⟨w2, r2, o2, g2⟩ := run_make_full (P := Tryz.prog) w1 w1.heap.size 32 72 i0 (.agg #[.string ByteArray.empty, .string ByteArray.empty]) 2 Tryz.underlying32 hi hz0 hz1 .i64 .i64 z.length (by rw [hz2]; omega) (by unfold maxLen; omega) (Nat.le_refl _)
    rw [zeros_row] at o2
    have O2 : Hid (MO w1.heap.size (.slice (some ⟨w1.heap.size, 0, none⟩) z.length z.length) (List.replicate z.length ([], [])) w2) := by
      show World.ownsRow _ _ _ _ _ _ _
      rw [List.length_replicate]; exact o2
    have B2 : Hid (Below w1.heap.size w1 w2) := (Below.refl _ _).grown g2 (Nat.le_refl _) (fun k hk => by cases hk)
    have BW : Hid (∀ W, Below w1.heap.size w1 W → Below w.heap.size w W) := fun W hW => B1.out.trans (hW.mono B1.out.size)
    have ML : Hid (mb < w1.heap.size) := hM.lt
    clear hb hF ho hE hM hmb AL HM o2 g2 hi hz0 hz1 hz2
    rcases MZ.out.open with ⟨rfl, _, _, _⟩ | ⟨hp, b, off, cap', e1, hcap, hlt, hc⟩
    · have r3 : (Instr.makeSlice 32 (.int .i64 0) (.int .i64 0)).run Tryz.prog w1 = .ok (.slice (some ⟨w1.heap.size, 0, none⟩) 0 0) w2 := r2
      clear r2
      go_wp2_with fail
      go_rounds 1
      go_ret2
      exact ⟨BW.out _ B2.out, .inl ⟨FF.out, o, f, _, HO.out, HE.out, ⟨_, _, rfl, Nat.le_refl _, Nat.zero_le _, Nat.zero_le _, .inl rfl⟩, rfl⟩⟩
    · obtain ⟨rfl, rfl⟩ : a = some ⟨b, off, none⟩ ∧ cap = cap' := by simpa using e1
      have HC : Hid (∀ W, Below w1.heap.size w1 W → ∀ k, k < z.length → W.cell? ⟨b, off + k * 2, none⟩ = some (.string (bs (nm z k))) ∧ W.cell? ⟨b, off + k * 2 + 1, none⟩ = some (.string (bs (vl z k)))) := fun W hW k hk => ⟨cell_later hW (hc k _ (at_some hk)).1, cell_later hW (hc k _ (at_some hk)).2⟩
      have HL : Hid (∀ k, k < z.length → (nm z k).length ≤ maxLen) := fun k hk => (HX.out _ (mem_at hk)).1
      have TK : Hid (∀ k, k < z.length → (flatL f z).take (k + 1) = (flatL f z).take k ++ [(nm z k, (f (nm z k)).getD [])]) := fun k hk => flatL_at f hk
      have HP : Hid (∀ (q : List Mc) (w' : World), q.length = z.length → MO w1.heap.size (.slice (some ⟨w1.heap.size, 0, none⟩) z.length z.length) q w' → ∀ k, k < z.length → (w'.cell? ⟨w1.heap.size, k * 2, none⟩ = some (.string (bs (nm q k))) ∧ w'.cell? ⟨w1.heap.size, k * 2 + 1, none⟩ = some (.string (bs (vl q k)))) ∧ ∀ j, w'.frozen? ⟨w1.heap.size, j, none⟩ = false) := fun q w' hq hm k hk => ⟨hm.cell (by omega), fun j => by unfold MO at hm; rw [hq] at hm; exact World.ownsRow.frozenAt hm j⟩
      clear e1 hc hlt
      generalize nm z = p1 at *
      generalize vl z = p2 at *
      go_wp2_with fail
      go_loopw [22] (fun i wr => ∃ (k : Nat) (q : List Mc), k ≤ z.length ∧ i = .int .i64 (k : Int) ∧ q.length = z.length ∧ q.take k = (flatL f z).take k ∧ MO w1.heap.size (.slice (some ⟨w1.heap.size, 0, none⟩) z.length z.length) q wr ∧ Below w1.heap.size w1 wr) (fun i _ => z.length - (intOf i).toNat)
      case atStart => exact ⟨0, _, Nat.zero_le _, rfl, List.length_replicate, rfl, O2.out, B2.out⟩
      case round =>
        obtain ⟨k, q, hk, rfl, hq, q1, q2, q3⟩ := hrel
        have Q0 := Lib.hid hq; have Q1 := Lib.hid q1; have Q2 := Lib.hid q2; have Q3 := Lib.hid q3; clear q1 q2 q3 hq
        by_cases hk2 : k < z.length
        · obtain ⟨c1, c2⟩ := HC.out wr Q3.out k hk2
          have X1 := Lib.hid (HL.out k hk2)
          have T1 := Lib.hid (TK.out k hk2)
          have BA : Hid (Below w1.heap.size w1 (wr.alloc (.cells #[.string (bs (p1 k)), .string (bs (p2 k))] 72))) := Q3.out.alloc Q3.out.size _
          have QA : Hid (MO w1.heap.size (.slice (some ⟨w1.heap.size, 0, none⟩) z.length z.length) q (wr.alloc (.cells #[.string (bs (p1 k)), .string (bs (p2 k))] 72))) := World.ownsRow.alloc Q2.out _
          obtain ⟨⟨d1, d2⟩, fz⟩ := HP.out q _ Q0.out QA.out k hk2
          have f1 := fz (k * 2)
          have f2 := fz (k * 2 + 1)
          have l1 := (MB.out.later BA.out).look (t := 62) (e := 9) (z := .string (bs [])) (x := p1 k) Tryz.underlying62 (Tryz.zeroValue9 _) X1.out
          rw [show (fT f (p1 k)).getD (.string (bs [])) = .string (bs ((f (p1 k)).getD [])) by unfold fT; cases f (p1 k) <;> rfl] at l1
          have PU : Hid (MO w1.heap.size (.slice (some ⟨w1.heap.size, 0, none⟩) z.length z.length) (q.set k (p1 k, (f (p1 k)).getD [])) (((wr.alloc (.cells #[.string (bs (p1 k)), .string (bs (p2 k))] 72)).setCell ⟨w1.heap.size, k * 2, none⟩ (.string (bs (p1 k)))).setCell ⟨w1.heap.size, k * 2 + 1, none⟩ (.string (bs ((f (p1 k)).getD []))))) := by
            have h1 := QA.out
            rw [← Q0.out] at h1 ⊢
            exact MO.put h1 (k := k) (by have := Q0.out; omega) _ _
          generalize p1 k = x at *
          generalize p2 k = y at *
          generalize (f x).getD [] = t at *
          clear fz
          go_wp2
          go_roundw
          case rel =>
            refine ⟨k + 1, _, by omega, by go_num, by rw [List.length_set]; exact Q0.out, ?_, PU.out, (BA.out.setCell (Nat.le_refl _) _).setCell (Nat.le_refl _) _⟩
            rw [T1.out, ← Q1.out, List.take_add_one, List.getElem?_set_self (by have := Q0.out; omega), List.take_set_of_le (Nat.le_refl _)]
            rfl
          case measure => simp [intOf]; omega
        · obtain rfl : k = z.length := by omega
          have FL : Hid (McIn wr (.slice (some ⟨w1.heap.size, 0, none⟩) z.length z.length) (flatL f z)) := by
            have e1 := Q1.out
            have e2 : q = flatL f z := by
              rw [← Q0.out, List.take_length, Q0.out, show z.length = (flatL f z).length by unfold flatL; rw [List.length_map], List.take_length] at e1
              exact e1
            rw [← e2]
            exact McIn.own Q2.out (by have := Q0.out; have := ZL.out; omega)
          go_wp2
          go_ret2
          exact ⟨BW.out _ Q3.out, .inl ⟨FF.out, o, f, _, HO.out, HE.out, FL.out, rfl⟩⟩
  · have B1 := Lib.hid hb; have HE := Lib.hid hE
    have t1 : (E != 0) = true := by simpa using hE.bad.2
    clear hb hE AL
    go_wp2
    go_ret2
    exact ⟨B1.out, .inr ⟨E, HE.out, rfl⟩⟩
end Go.Proofs.YtfgcbdjkimkgpaaGreatDoor
namespace Go.Proofs.YtfgcbdjkimkgpaaGreatDoor
set_option maxRecDepth 100000
set_option linter.unusedVariables false
open Go.ChangeShapes Go.WideShapes Go.ChangeAt Go.RowKit

theorem ans_more {z : List Mc} {x : Mc} {s a b : Str} {E F : Int} (h1 : Ans z s a E) (h2 : Ans (z ++ [x]) s b F) : (E = 0 → F = 0 → a = b) ∧ (E ≠ 0 → a = []) ∧ (F ≠ 0 → b = []) := by
  rcases h1 with ⟨rfl, h1⟩ | ⟨e1, rfl, _, h1⟩ <;> rcases h2 with ⟨rfl, h2⟩ | ⟨e2, rfl, _, h2⟩
  · exact ⟨fun _ _ => h1.more h2, fun h => absurd rfl h, fun h => absurd rfl h⟩
  · exact ⟨fun _ h => absurd h e2, fun h => absurd rfl h, fun _ => rfl⟩
  · exact ⟨fun h _ => absurd h e1, fun _ => rfl, fun h => absurd rfl h⟩
  · exact ⟨fun h _ => absurd h e1, fun _ => rfl, fun _ => rfl⟩
/-- append as one step of a region that draws -/
theorem step_append_run {P : Program} {ops : Array Oper} {o : Oper} {a : Act} {w : World} {K : Act → World → Prop} {Q : Exit → Act → World → Prop} {E : Prop}
    (hg : o.guard = none) (s x : Operand) (t : TypeId) (hop : o.op = Op.call { callee := Callee.builtin Builtin.append, args := #[s, x], argTypes := #[t, t] })
    (vs vx : Value) (hs : a.eval s = vs) (hx : a.eval x = vx) (v' : Value) (w' : World) (hr : (Builtin.append_ #[t, t] o.type #[vs, vx]).run P w = .ok v' w') (hK : K (a.put o.dst v') w') :
    if Region.wanted o (yielded ops a.tmps) = true then Oper.wp P o a w K Q else E := by
  have hw : Region.wanted o (yielded ops a.tmps) = true := by simp [Region.wanted, hg]
  rw [if_pos hw]
  unfold Oper.wp
  simp [execOp, hop, resolve, invoke, builtin, hs, hx, hr, Result.andThen]
  exact hK
theorem two_later {w w' : World} {q : Nat} {x y : Value} (h : ∀ j u, [x, y][j]? = some u → w.cell? ((⟨q, 0, none⟩ : Addr).add j) = some u) (hb : Below w.heap.size w w') : ∀ j u, [x, y][j]? = some u → w'.cell? ((⟨q, 0, none⟩ : Addr).add j) = some u :=
  fun j u hj => cell_later hb (h j u hj)
theorem MO.alloc {B : Nat} {v : Value} {o : List Mc} {w : World} (h : MO B v o w) (q : Obj) : MO B v o (w.alloc q) := World.ownsRow.alloc h q
theorem app_mc {B q : Nat} {z : List Mc} {v : Value} {x y : Str} {W : World} (h : MO B v z W) (hc : ∀ j u, [Value.string (bs x), .string (bs y)][j]? = some u → W.cell? ((⟨q, 0, none⟩ : Addr).add j) = some u) (hn : z.length ≤ 1048576) (hB : B ≤ W.heap.size) :
    ∃ a4 c4 w4, (Builtin.append_ #[32, 32] 32 #[v, .slice (some ⟨q, 0, none⟩) 1 1]).run Tryz.prog W = .ok (.slice a4 (z.length + 1) c4) w4 ∧ MO B (.slice a4 (z.length + 1) c4) (z ++ [(x, y)]) w4 ∧ W.grownBy w4 v.ownBlock := by
  obtain ⟨i0, hi, hz0, hz1, hz2⟩ := info_parts infoMc
  obtain ⟨v4, w4, r4, o4, g4, _⟩ := run_append_own (P := Tryz.prog) W B 32 32 72 i0 (.agg #[.string ByteArray.empty, .string ByteArray.empty]) 2 32 Tryz.underlying32 hi hz0 hz1 hz2 rfl (by decide) v z.length (mcCells z) h ⟨q, 0, none⟩ 1 1 [.string (bs x), .string (bs y)] rfl hc (by intro u hu; simp at hu; rcases hu with rfl | rfl <;> rfl) (by unfold maxLen; omega) (by omega) hB
  have o5 := MO.snoc o4
  obtain ⟨a, c, rfl⟩ := o5.len
  rw [List.length_append, List.length_singleton] at r4 o5
  exact ⟨a, c, w4, r4, o5, g4⟩
end Go.Proofs.YtfgcbdjkimkgpaaGreatDoor
