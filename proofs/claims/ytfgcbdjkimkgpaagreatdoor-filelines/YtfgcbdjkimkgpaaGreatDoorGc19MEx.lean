/-
  The reference's Expanded; slices.ContainsFunc of macros with the law's own test. Condition: strings of at most 2^32 bytes.
  Makefiles in plain words: what a line defines (defR), what one line adds (putL), what Parse answers (parseF). No condition.
  Package file's definition, definitions, isPlain, suffixPair, inference. Condition: the strings have at most 2^32 bytes.
  Package file's isPlain, suffixPair, inference. Condition: the strings are ASCII and have at most 2^31 bytes.
-/
import Derived.Test.YtfgcbdjkimkgpaaGreatDoorGc18MMf
import Derived.Test.YtfgcbdjkimkgpaaGreatDoorGc13RPar
import Derived.Test.YtfgcbdjkimkgpaaGreatDoorGc6MRep
import Derived.Test.YtfgcbdjkimkgpaaGreatDoorGc9LRa
import Derived.Laws.ResultCell
namespace Go.Proofs.YtfgcbdjkimkgpaaGreatDoor
set_option maxRecDepth 100000
set_option linter.unusedVariables false
open Go.ChangeShapes Go.WideShapes Go.ChangeAt Go.RowKit

theorem FE.to {z o : List Mc} {f : Str → Option Str} (h : FE z o f) (ho : ∀ m, m ∈ o ↔ m ∈ z) : FE z z f := ⟨fun x => h.mem ho x, h.val⟩
set_option maxHeartbeats 4000000 in
set_option maxRecDepth 100000 in
theorem exd_any (z : List Mc) (s : Str) (v : Value) (w : World) (h : McIn w v z) (hx : ∀ m ∈ z, m.1.length ≤ maxLen ∧ m.2.length ≤ 4294967296) (hs : s.length ≤ 4294967296) :
    Calls Tryz.prog 44 #[v, .string (bs s)] w (EPost z s w) := by
  have RF := Lib.hid (rflat_any z v w h hx)
  have HM := Lib.hid h
  have HX := Lib.hid hx
  have HS := Lib.hid hs
  clear h hx hs
  go_enter Tryz.func44, Tryz.ntmps44
  go_wp2_with fail
  refine RF.out.mono ?_
  rintro e w1 ⟨hb, (⟨hF, o, f, u, ho, hE, hI, rfl⟩ | ⟨E, hE, rfl⟩)⟩
  · have B1 := Lib.hid hb; have FF := Lib.hid hF; have HO := Lib.hid ho; have HE := Lib.hid hE; have I1 := Lib.hid hI
    have MZ := Lib.hid (HM.out.later hb)
    have ND : Hid (names z).Nodup := hF.2.1
    have ZL : Hid (z.length ≤ 40) := hF.1
    clear hb hF ho hE hI RF HM
    have CA := Lib.hid (calls_any (bs s) w1 (by rw [bs_size]; exact HS.out))
    rw [bs_list] at CA
    go_wp2_with fail
    refine CA.out.mono ?_
    rintro e w2 ⟨hb2, (⟨T, c, hT, hTl, rfl, hC⟩ | ⟨hT, rfl⟩)⟩
    · have B2 : Hid (Below w.heap.size w w2) := B1.out.trans (hb2.mono B1.out.size)
      have I2 := Lib.hid (I1.out.later hb2)
      have M2 := Lib.hid (MZ.out.later hb2)
      have CD := Lib.hid (called_any T c w2 hC (by have := HS.out; omega) (tk_good s none T hT))
      have UL : Hid ((dd T).length ≤ 4294967296) := by have h1 := dd_le T; have h2 := HS.out; show _ ≤ _; omega
      have TL : Hid (T.length ≤ 4294967296) := by have h2 := HS.out; show _ ≤ _; omega
      have TT := Lib.hid hT
      have C2 := Lib.hid hC
      clear hb2 hT hTl hC CA
      go_wp2_with fail
      refine CD.out.mono ?_
      rintro e w3 ⟨u3, rfl, o3, hb3⟩
      have B3 : Hid (Below w.heap.size w w3) := B2.out.trans (hb3.mono B2.out.size)
      have I3 := Lib.hid (I2.out.later hb3)
      have M3 := Lib.hid (M2.out.later hb3)
      have C3 := Lib.hid (C2.out.later hb3)
      have MT : Hid (∀ n, Sum.inr n ∈ T ↔ n ∈ dd T) := fun n => (mem_dd n T).symm
      obtain ⟨U, hU⟩ : ∃ U, U = dd T := ⟨_, rfl⟩
      rw [← hU] at o3 UL MT
      have UE := Lib.hid hU; clear hU
      obtain ⟨au, cu, rfl⟩ : ∃ au cu, u3 = .slice au U.length cu := by
        rcases o3.2 with ⟨h, h0⟩ | ⟨g', c', cur, h, _⟩
        · exact ⟨_, _, by rw [h, h0]⟩
        · exact ⟨_, _, h⟩
      have UC : Hid (∀ s, s < U.length → ∃ gu, au = some ⟨gu, 0, none⟩ ∧ ∀ W, Below w3.heap.size w3 W → W.cell? ⟨gu, s, none⟩ = some (.string (bs (U.getD s [])))) := fun s hs => by
        obtain ⟨gu, rfl⟩ : ∃ gu, au = some ⟨gu, 0, none⟩ := by
          rcases o3.2 with ⟨_, e0⟩ | ⟨g', c', cur, hv, _⟩
          · omega
          · simp at hv; exact ⟨g', hv.1⟩
        have cu1 := World.ownsRow.cells o3 (g := gu) rfl s (encStr (U.getD s [])) (by rw [List.getElem?_map, List.getD, List.getElem?_eq_getElem hs]; rfl)
        rw [add_off, encStr_bs] at cu1
        exact ⟨gu, rfl, fun W hW => cell_later hW cu1⟩
      have US : Hid (∀ s, s < U.length → U.take (s + 1) = U.take s ++ [U.getD s []] ∧ U.getD s [] ∈ U) := fun s hs => ⟨by rw [List.take_add_one, List.getElem?_eq_getElem hs, List.getD, List.getElem?_eq_getElem hs]; rfl, by rw [List.getD, List.getElem?_eq_getElem hs]; exact List.getElem_mem hs⟩
      have MN : Hid (∀ W, Below w3.heap.size w3 W → Calls Tryz.prog 75 #[v] W fun e w' => ∃ v', e = .returned v' ∧ SO W.heap.size v' (names z) w' ∧ Below W.heap.size W w') := fun W hW => mnames_any z v W (M3.out.later hW) (by have := ZL.out; omega)
      have SP : Hid (∀ W B v', SO B v' (names z) W → SIn W v' (names z)) := fun W B v' hS => SIn.own hS (by have := ZL.out; unfold names; rw [List.length_map]; omega) (fun n hn => by
        obtain ⟨m, hm, rfl⟩ := List.mem_map.1 hn
        have := (HX.out m hm).1; unfold maxLen at this; omega)
      have BW : Hid (∀ W, Below w3.heap.size w3 W → Below w.heap.size w W) := fun W hW => B3.out.trans (hW.mono B3.out.size)
      clear hb3 o3 CD
      have ul := UL.out
      go_wp2_with fail
      go_loopw [31] (fun i wp => ∃ (t : Nat), t ≤ U.length ∧ i = .int .i64 (t : Int) ∧ (∀ n ∈ U.take t, n ∈ names z) ∧ Below w3.heap.size w3 wp) (fun i _ => U.length - (intOf i).toNat)
      case atStart => exact ⟨0, Nat.zero_le _, rfl, fun n hn => absurd hn (by simp), Below.refl _ _⟩
      case round =>
        obtain ⟨t, ht, rfl, p1, p6⟩ := hrel
        have P1 := Lib.hid p1; have P6 := Lib.hid p6; clear p1 p6
        rename World => W8
        by_cases ht2 : t < U.length
        · obtain ⟨gu, rfl, hcu⟩ := UC.out t ht2
          have cu1 := hcu W8 P6.out
          obtain ⟨us1, us2⟩ := US.out t ht2
          have US1 := Lib.hid us1
          have US2 := Lib.hid us2
          clear us1 us2 hcu
          generalize U.getD t [] = q at *
          go_wp2_with fail
          refine (MN.out _ P6.out).mono ?_
          rintro e w9 ⟨v9, rfl, o9, hb9⟩
          have I9 := Lib.hid (SP.out _ _ _ o9)
          have P9 : Hid (Below w3.heap.size w3 w9) := P6.out.trans (hb9.mono P6.out.size)
          have PQ := Lib.hid (place_ix I9.out q)
          clear o9 hb9
          by_cases hq : q ∈ names z
          · obtain ⟨i, hi, _, _⟩ := placeIx_some hq
            rw [hi] at PQ
            have t5 : decide ((i : Int) < 0) = false := decide_eq_false (by omega)
            have HQ := Lib.hid hq
            clear hq hi
            go_wp2_with fail
            refine PQ.out.mono ?_
            rintro e wA ⟨rfl, hA⟩
            rw [hA]
            clear hA wA
            go_wp2
            go_roundw
            case rel =>
              refine ⟨t + 1, by omega, by go_num, fun n hn => ?_, P9.out⟩
              rw [US1.out] at hn
              rcases List.mem_append.1 hn with hn | hn
              · exact P1.out n hn
              · rw [List.mem_singleton.1 hn]; exact HQ.out
            case measure => simp [intOf]; omega
          · rw [placeIx_none hq] at PQ
            have NO : Hid (∃ x ∈ dd T, x ∉ names z) := ⟨q, by rw [← UE.out]; exact US2.out, hq⟩
            clear hq
            go_wp2_with fail
            refine PQ.out.mono ?_
            rintro e wA ⟨rfl, hA⟩
            rw [hA]
            clear hA wA
            go_wp2
            go_ret2
            exact ⟨BW.out _ P9.out, .inr ⟨5, .inr ⟨FF.out, .inr ⟨T, TT.out, .inl ⟨NO.out, rfl⟩⟩⟩, rfl⟩⟩
        · obtain rfl : t = U.length := by omega
          have YES : Hid (∀ x ∈ dd T, x ∈ names z) := by rw [← UE.out]; have := P1.out; rw [List.take_length] at this; exact this
          have SE : Hid (subD (look (flatL f z)) T = subD f T) := subD_congr T (fun n hn => look_flat (HE.out.to HO.out) ND.out (YES.out n (by rw [← UE.out]; exact (MT.out n).1 hn)))
          have TE := Lib.hid (ten_any (flatL f z) T u c W8 (I3.out.later P6.out) (C3.out.later P6.out) (by have := ZL.out; unfold flatL; rw [List.length_map]; omega) TL.out (by rw [flat_names]; exact ND.out) (fun m hm => ⟨by
            obtain ⟨y, hy, rfl⟩ := List.mem_map.1 hm
            exact (HX.out y hy).1, flat_val (HE.out.to HO.out) m hm⟩) (fun n hn => by rw [flat_names]; exact YES.out n (by rw [← UE.out]; exact (MT.out n).1 hn)))
          unfold TenPost at TE
          rw [SE.out] at TE
          go_wp2_with fail
          refine TE.out.mono ?_
          rintro e w9 ⟨hb9, (⟨hl, rfl⟩ | ⟨hl, rfl⟩)⟩
          · have B9 : Hid (Below w3.heap.size w3 w9) := P6.out.trans (hb9.mono P6.out.size)
            have EX := Lib.hid (HE.out.exp FF.out HO.out TT.out YES.out hl)
            clear hb9 hl TE SE
            go_wp2
            go_ret2
            exact ⟨BW.out _ B9.out, .inl ⟨_, EX.out, rfl⟩⟩
          · have B9 : Hid (Below w3.heap.size w3 w9) := P6.out.trans (hb9.mono P6.out.size)
            have NE := Lib.hid (HE.out.noexp HO.out TT.out YES.out hl)
            clear hb9 hl TE SE
            go_wp2
            go_ret2
            exact ⟨BW.out _ B9.out, .inr ⟨2, .inr ⟨FF.out, .inr ⟨T, TT.out, .inr ⟨YES.out, NE.out, rfl⟩⟩⟩, rfl⟩⟩
    · have B2 : Hid (Below w.heap.size w w2) := B1.out.trans (hb2.mono B1.out.size)
      have TT := Lib.hid hT
      clear hb2 hT CA
      go_wp2
      go_ret2
      exact ⟨B2.out, .inr ⟨3, .inr ⟨FF.out, .inl ⟨TT.out, rfl⟩⟩, rfl⟩⟩
  · have B1 := Lib.hid hb; have HE := Lib.hid hE
    have t1 : (E != 0) = true := by simpa using hE.bad.2
    clear hb hE RF
    go_wp2
    go_ret2
    exact ⟨B1.out, .inr ⟨E, .inl HE.out, rfl⟩⟩
end Go.Proofs.YtfgcbdjkimkgpaaGreatDoor
namespace Go.Proofs.YtfgcbdjkimkgpaaGreatDoor
set_option maxRecDepth 100000
set_option linter.unusedVariables false

/-- cut at the first byte c -/
def cutB (c : UInt8) : Str → Option (Str × Str)
  | [] => none
  | d :: r => if d = c then some ([], r) else match cutB c r with
    | none => none
    | some p => some (d :: p.1, p.2)
theorem cutB_none {c : UInt8} : ∀ {s : Str}, cutB c s = none → ∀ j, j < s.length → s.getD j 0 ≠ c
  | [], _, j, hj => by simp at hj
  | d :: r, h, j, hj => by
    unfold cutB at h
    by_cases hc : d = c
    · rw [if_pos hc] at h; cases h
    · rw [if_neg hc] at h
      cases hr : cutB c r with
      | some p => rw [hr] at h; cases h
      | none =>
        cases j with
        | zero => exact hc
        | succ j => simpa using cutB_none hr j (by simpa using hj)
theorem cutB_some {c : UInt8} : ∀ {s : Str} {p : Str × Str}, cutB c s = some p → p.1.length < s.length ∧ s.getD p.1.length 0 = c ∧ (∀ j, j < p.1.length → s.getD j 0 ≠ c) ∧ s.take p.1.length = p.1 ∧ s.drop (p.1.length + 1) = p.2 ∧ s = p.1 ++ c :: p.2
  | [], p, h => by simp [cutB] at h
  | d :: r, p, h => by
    unfold cutB at h
    by_cases hc : d = c
    · rw [if_pos hc] at h; cases h; subst hc; simp
    · rw [if_neg hc] at h
      cases hr : cutB c r with
      | none => rw [hr] at h; cases h
      | some q =>
        rw [hr] at h
        cases h
        obtain ⟨h1, h2, h3, h4, h5, h6⟩ := cutB_some hr
        refine ⟨by simpa using h1, by simpa using h2, fun j hj => ?_, by simpa using h4, by simpa using h5, by rw [List.cons_append, ← h6]⟩
        cases j with
        | zero => exact hc
        | succ j => simpa using h3 j (by simpa using hj)
theorem cutB_not {c : UInt8} {s : Str} {p : Str × Str} (h : cutB c s = some p) : c ∉ p.1 := by
  obtain ⟨h1, h2, h3, h4, h5, h6⟩ := cutB_some h
  intro hm
  obtain ⟨j, hj, e⟩ := List.getElem_of_mem hm
  refine h3 j hj ?_
  rw [h6, List.getD, List.getElem?_append_left hj, List.getElem?_eq_getElem hj]
  exact e
theorem cutB_mk {c : UInt8} : ∀ (a b : Str), c ∉ a → cutB c (a ++ c :: b) = some (a, b)
  | [], b, _ => by simp [cutB]
  | d :: a, b, h => by
    rw [List.mem_cons, not_or] at h
    rw [List.cons_append, cutB, if_neg (Ne.symm h.1), cutB_mk a b h.2]
theorem cutB_no {c : UInt8} : ∀ (a : Str), c ∉ a → cutB c a = none
  | [], _ => rfl
  | d :: a, h => by
    rw [List.mem_cons, not_or] at h
    rw [cutB, if_neg (Ne.symm h.1), cutB_no a h.2]

/-- the macro that a line defines -/
def defR (s : Str) : Option Mc := match cutB 61 s with
  | none => none
  | some p => if p.1.contains 58 then none else some (triml (trimr p.1), triml (trimr p.2))
def defsR (l : List Str) : List Mc := l.filterMap defR
theorem defR_len {s : Str} {m : Mc} (h : defR s = some m) : m.1.length ≤ s.length ∧ m.2.length ≤ s.length := by
  unfold defR at h
  cases hc : cutB 61 s with
  | none => rw [hc] at h; cases h
  | some p =>
    rw [hc] at h
    simp only [] at h
    split at h
    · cases h
    · cases h
      obtain ⟨h1, _, _, _, h5, h6⟩ := cutB_some hc
      have a1 := triml_le (trimr p.1); have a2 := trimr_le p.1
      have b1 := triml_le (trimr p.2); have b2 := trimr_le p.2
      have e : s.length = p.1.length + (p.2.length + 1) := by conv => lhs; rw [h6]
                                                              rw [List.length_append, List.length_cons]
      show (triml (trimr p.1)).length ≤ s.length ∧ (triml (trimr p.2)).length ≤ s.length
      exact ⟨by omega, by omega⟩

theorem Ans.one {z : List Mc} {s a b : Str} {E F : Int} (h1 : Ans z s a E) (h2 : Ans z s b F) : a = b ∧ E = F := by
  rcases h1 with ⟨rfl, h1⟩ | ⟨e1, rfl, x1, h1⟩ <;> rcases h2 with ⟨rfl, h2⟩ | ⟨e2, rfl, x2, h2⟩
  · exact ⟨h1.one h2, rfl⟩
  · exact absurd h1 (h2 _)
  · exact absurd h2 (h1 _)
  · exact ⟨rfl, x1.one x2⟩
open Classical in
/-- the expansion and the error -/
noncomputable def expR (z : List Mc) (s : Str) : Str × Int := if h : ∃ p : Str × Int, Ans z s p.1 p.2 then h.choose else ([], 0)
theorem expR_eq {z : List Mc} {s a : Str} {E : Int} (h : Ans z s a E) : expR z s = (a, E) := by
  have hx : ∃ p : Str × Int, Ans z s p.1 p.2 := ⟨(a, E), h⟩
  unfold expR
  rw [dif_pos hx]
  obtain ⟨e1, e2⟩ := hx.choose_spec.one h
  exact Prod.ext e1 e2
theorem ans_len {z : List Mc} {s a : Str} {E : Int} (h : Ans z s a E) : a.length ≤ 2000 := by
  rcases h with ⟨_, _, k, h⟩ | ⟨_, rfl, _⟩
  · obtain ⟨_, _, _, h3⟩ := val_some h; exact h3
  · exact Nat.zero_le _
open Classical in
/-- the error of all macros -/
noncomputable def flatE (z : List Mc) : Int := if h : ∃ E, XErr z E then h.choose else 0
theorem flatE_err {z : List Mc} {E : Int} (h : XErr z E) : flatE z = E := by
  have hx : ∃ E, XErr z E := ⟨E, h⟩
  unfold flatE
  rw [dif_pos hx]
  exact hx.choose_spec.one h
theorem flatE_fine {z : List Mc} (h : Fine z) : flatE z = 0 := by
  unfold flatE
  rw [dif_neg]
  rintro ⟨E, hE⟩
  exact hE.bad.1 h

abbrev St := List Str × List Mc × List Rl
abbrev Fil := List Mc × St
def addU {α : Type} [BEq α] (l : List α) (x : α) : List α := if l.contains x then l else l ++ [x]
def phN (ph needs : List Str) : List Str := needs.foldl addU ph
def phonyW : Str := [46, 80, 72, 79, 78, 89]
def plainS (x : Str) : Bool := !x.isEmpty && !x.contains 46 && !x.contains 47
/-- the two suffixes -/
def pairR (s : Str) : Option Mc := match s with
  | [] => none
  | c :: r => if c = 46 then (match cutB 46 r with
    | none => none
    | some p => if plainS p.1 && plainS p.2 then some (46 :: p.1, 46 :: p.2) else none) else none
def infR (r : Rl) : Option Mc := if r.1.length = 1 ∧ r.2.length = 0 then pairR (r.1.getD 0 []) else none
/-- what a rule adds -/
def putL (st : St) (r : Rl) : Int × St :=
  if r.1.contains phonyW then (if 1 < r.1.length then (3, st) else if 20 < (phN st.1 r.2).length then (2, st) else (0, (phN st.1 r.2, st.2)))
  else match infR r with
    | some p => (0, (st.1, addU st.2.1 p, st.2.2))
    | none => if 100 < st.2.2.length + 1 then (2, st) else (0, (st.1, st.2.1, st.2.2 ++ [r]))
/-- what a line adds -/
noncomputable def addL (z : List Mc) (st : St) (s : Str) : Int × St :=
  if (expR z s).2 ≠ 0 then ((expR z s).2, st) else if (parseR (expR z s).1).2 ≠ 0 then ((parseR (expR z s).1).2, st) else putL st (parseR (expR z s).1).1
noncomputable def goL (z : List Mc) : Nat → St → List Str → St × Nat × Int
  | _, st, [] => (st, 0, 0)
  | i, st, s :: r => if (defR s).isSome then goL z (i + 1) st r else if (addL z st s).1 ≠ 0 then (([], [], []), i + 1, (addL z st s).1) else goL z (i + 1) (addL z st s).2 r
theorem goL_skip {z : List Mc} {i : Nat} {st : St} {s : Str} {r : List Str} (h : (defR s).isSome = true) : goL z i st (s :: r) = goL z (i + 1) st r := by rw [goL, if_pos h]
theorem goL_bad {z : List Mc} {i : Nat} {st : St} {s : Str} {r : List Str} (h : defR s = none) (k : (addL z st s).1 ≠ 0) : goL z i st (s :: r) = (([], [], []), i + 1, (addL z st s).1) := by rw [goL, h, if_neg (by decide), if_pos k]
theorem goL_step {z : List Mc} {i : Nat} {st : St} {s : Str} {r : List Str} (h : defR s = none) (k : (addL z st s).1 = 0) : goL z i st (s :: r) = goL z (i + 1) (addL z st s).2 r := by rw [goL, h, if_neg (by decide), if_neg (fun e => e k)]
theorem goL_zero {z : List Mc} : ∀ {l : List Str} {i : Nat} {st : St}, (goL z i st l).2.1 = 0 ∧ (goL z i st l).2.2 = 0 ∨ (goL z i st l).2.2 ≠ 0 ∧ (goL z i st l).1 = ([], [], []) ∧ (goL z i st l).2.1 ≤ i + l.length
  | [], i, st => .inl ⟨rfl, rfl⟩
  | s :: r, i, st => by
    cases hd : defR s with
    | some m =>
      rw [goL_skip (by rw [hd]; rfl)]
      rcases goL_zero (l := r) (i := i + 1) (st := st) with h | ⟨h1, h2, h3⟩
      · exact .inl h
      · exact .inr ⟨h1, h2, by rw [List.length_cons]; omega⟩
    | none =>
      by_cases hk : (addL z st s).1 = 0
      · rw [goL_step hd hk]
        rcases goL_zero (l := r) (i := i + 1) (st := (addL z st s).2) with h | ⟨h1, h2, h3⟩
        · exact .inl h
        · exact .inr ⟨h1, h2, by rw [List.length_cons]; omega⟩
      · rw [goL_bad hd hk]
        exact .inr ⟨hk, rfl, by rw [List.length_cons]; show i + 1 ≤ _; omega⟩
/-- Parse's answer: the file, the number, the error -/
noncomputable def parseF (l : List Str) : Fil × Nat × Int :=
  if 200 < l.length then (([], [], [], []), 0, 2) else if flatE (defsR l) ≠ 0 then (([], [], [], []), 0, flatE (defsR l))
  else if (goL (defsR l) 0 ([], [], []) l).2.2 ≠ 0 then (([], [], [], []), (goL (defsR l) 0 ([], [], []) l).2.1, (goL (defsR l) 0 ([], [], []) l).2.2)
  else ((defsR l, (goL (defsR l) 0 ([], [], []) l).1), 0, 0)
theorem parseF_large {l : List Str} (h : 200 < l.length) : parseF l = (([], [], [], []), 0, 2) := by unfold parseF; rw [if_pos h]
theorem parseF_flat {l : List Str} (h : ¬ 200 < l.length) {E : Int} (hE : XErr (defsR l) E) : parseF l = (([], [], [], []), 0, E) := by
  unfold parseF; rw [if_neg h, flatE_err hE, if_pos hE.bad.2]
theorem parseF_go {l : List Str} (h : ¬ 200 < l.length) (hF : Fine (defsR l)) : parseF l = (if (goL (defsR l) 0 ([], [], []) l).2.2 ≠ 0 then (([], [], [], []), (goL (defsR l) 0 ([], [], []) l).2.1, (goL (defsR l) 0 ([], [], []) l).2.2)
    else ((defsR l, (goL (defsR l) 0 ([], [], []) l).1), 0, 0)) := by
  unfold parseF; rw [if_neg h, flatE_fine hF, if_neg (by decide)]
/-- the lines of a file -/
def lineT (t n : List Str) : Str := Lib.join t [32] ++ 32 :: 58 :: n.flatMap fun x => 32 :: x
def lnsF (f : Fil) : List Str := (f.1.map fun m => m.1 ++ [32, 61, 32] ++ m.2) ++ (if f.2.1 = [] then [] else [lineT [phonyW] f.2.1]) ++ (f.2.2.1.map fun p => lineT [p.1 ++ p.2] []) ++ f.2.2.2.map fun r => lineT r.1 r.2
open Classical in
/-- Print's answer -/
noncomputable def printF (f : Fil) : List Str × Int := if (parseF (lnsF f)).2.2 ≠ 0 then ([], (parseF (lnsF f)).2.2) else if (parseF (lnsF f)).1 = f then (lnsF f, 0) else ([], 3)
end Go.Proofs.YtfgcbdjkimkgpaaGreatDoor
namespace Go.Proofs.YtfgcbdjkimkgpaaGreatDoor
set_option maxRecDepth 100000
set_option linter.unusedVariables false
open Go.ChangeShapes Go.WideShapes Go.ChangeAt Go.RowKit

theorem idx_contains : ∀ (x : Str) (c : UInt8), decide (0 ≤ Lib.indexByte x c) = x.contains c
  | [], c => rfl
  | d :: r, c => by
    have ih := idx_contains r c
    rw [Lib.indexByte, List.contains_cons, ← ih]
    by_cases h : d = c
    · subst h; simp
    · have e1 : (c == d) = false := by simpa using fun e => h e.symm
      have e2 : (d == c) = false := by simpa using h
      rw [e1]
      by_cases h2 : Lib.indexByte r c = -1
      · rw [h2]; simp [e2]
      · have e3 : (Lib.indexByte r c == -1) = false := by simpa using h2
        have e4 := Lib.indexByte_ge r c
        rw [Bool.false_or, Bool.eq_iff_iff, decide_eq_true_iff, decide_eq_true_iff]
        simp [e2, e3]
        omega
theorem trim_has {c : UInt8} (hb : bl c = false) (x : Str) : (triml (trimr x)).contains c = x.contains c := by
  obtain ⟨t, h1, h2⟩ := trimr_tail x
  obtain ⟨p, h3, h4⟩ := triml_split (trimr x)
  rw [Bool.eq_iff_iff, List.contains_iff_mem, List.contains_iff_mem]
  constructor
  · intro h
    rw [h1, h3]
    simp [h]
  · intro h
    rw [h1] at h
    rcases List.mem_append.1 h with h | h
    · rw [h3] at h
      rcases List.mem_append.1 h with h | h
      · have := h4 c h; rw [hb] at this; cases this
      · exact h
    · have := h2 c h; rw [hb] at this; cases this
def dN (s : Str) : Str := ((defR s).getD ([], [])).1
def dV (s : Str) : Str := ((defR s).getD ([], [])).2
set_option maxHeartbeats 4000000 in
theorem def_any (s : Str) (w : World) (hs : s.length ≤ 4294967296) :
    Calls Tryz.prog 51 #[.string (bs s)] w fun e w' => e = .returned (.tuple #[.agg #[.string (bs (dN s)), .string (bs (dV s))], .bool (defR s).isSome]) ∧ Below w.heap.size w w' := by
  have S0 := Lib.hid (blk_new w #[.string (bs []), .string (bs [])] 72)
  have B0 : Hid (Below w.heap.size w (w.alloc (.cells #[.string (bs []), .string (bs [])] 72))) := (Below.refl _ _).alloc (Nat.le_refl _) _
  cases hc : cutB 61 s with
  | none =>
    have D : defR s = none := by unfold defR; rw [hc]
    have SP : Hid (∀ W, Calls Tryz.prog 82 #[.string (bs s), .int .u8 61] W fun e w' => e = .returned (.tuple #[.string (bs s), .string (ByteArray.mk #[]), .bool false]) ∧ w' = W) := fun W => split_no (bs s) 61 W (fun j hj => cutB_none hc j (by rw [bs_size] at hj; exact hj))
    have E1 : Hid (dN s = []) := by show _ = _; unfold dN; rw [D]; rfl
    have E2 : Hid (dV s = []) := by show _ = _; unfold dV; rw [D]; rfl
    have E3 : Hid ((defR s).isSome = false) := by show _ = _; rw [D]; rfl
    rw [E1.out, E2.out, E3.out]
    clear hc D
    obtain ⟨c0, c1⟩ := show _ ∧ _ from ⟨S0.out.cell (i := 0) rfl, S0.out.cell (i := 1) rfl⟩
    go_enter Tryz.func51, Tryz.ntmps51
    go_wp2_with fail
    refine (SP.out _).mono ?_
    rintro e w' ⟨rfl, rfl⟩
    go_wp2
    (try simp only [Exit.inBlock, Exit.then])
    refine bodyPost_ret (v := .tuple #[.agg #[.string (bs []), .string (bs [])], .bool false]) ?_ rfl ⟨rfl, ?_⟩
    · rw [results_cell_tmp rfl]; go_simp; rfl
    · exact B0.out
  | some p =>
    obtain ⟨h1, h2, h3, h4, h5, h6⟩ := cutB_some hc
    have SP : Hid (∀ W, Calls Tryz.prog 82 #[.string (bs s), .int .u8 61] W fun e w' => e = .returned (.tuple #[.string (bs (triml (trimr p.1))), .string (bs (triml (trimr p.2))), .bool true]) ∧ Below W.heap.size W w') := fun W => by
      have := split_at (bs s) 61 p.1.length W (by rw [bs_size]; omega) (by rw [bs_size]; exact h1) h2 h3
      rw [bs_list, h4, h5] at this
      exact this
    have CT : Hid (∀ W, Calls Tryz.prog 83 #[.string (bs (triml (trimr p.1))), .string (ByteArray.mk #[58])] W fun e w' => e = .returned (.bool (p.1.contains 58)) ∧ w' = W) := fun W => by
      have := Tryz.strings_Contains_one (bs (triml (trimr p.1))) 58 W
      rw [bs_list, idx_contains, trim_has (by decide)] at this
      exact this
    have DD : defR s = if p.1.contains 58 then none else some (triml (trimr p.1), triml (trimr p.2)) := by unfold defR; rw [hc]
    generalize hy1 : triml (trimr p.1) = y1 at *
    generalize hy2 : triml (trimr p.2) = y2 at *
    cases hq : p.1.contains 58 with
    | true =>
      rw [hq] at CT DD
      have D : defR s = none := DD
      have E1 : Hid (dN s = []) := by show _ = _; unfold dN; rw [D]; rfl
      have E2 : Hid (dV s = []) := by show _ = _; unfold dV; rw [D]; rfl
      have E3 : Hid ((defR s).isSome = false) := by show _ = _; rw [D]; rfl
      rw [E1.out, E2.out, E3.out]
      clear hc D DD hy1 hy2 hq h1 h2 h3 h4 h5 h6 hs
      go_enter Tryz.func51, Tryz.ntmps51
      go_wp2_with fail
      refine (SP.out _).mono ?_
      rintro e w1 ⟨rfl, b1⟩
      have S1 := Lib.hid (S0.out.later b1)
      have B1 := Lib.hid (B0.out.trans (b1.mono (by simp)))
      clear b1
      go_wp2_with fail
      refine (CT.out _).mono ?_
      rintro e w2 ⟨rfl, rfl⟩
      obtain ⟨c0, c1⟩ := show _ ∧ _ from ⟨S1.out.cell (i := 0) rfl, S1.out.cell (i := 1) rfl⟩
      obtain ⟨f0, f1⟩ := show _ ∧ _ from ⟨S1.out.free 0, S1.out.free 1⟩
      go_wp2
      (try simp only [Exit.inBlock, Exit.then])
      refine bodyPost_ret (v := .tuple #[.agg #[.string (bs []), .string (bs [])], .bool false]) ?_ rfl ⟨rfl, ?_⟩
      · rw [results_cell_tmp rfl]; go_simp; rfl
      · exact (B1.out.setCell (Nat.le_refl _) _).setCell (Nat.le_refl _) _
    | false =>
      rw [hq] at CT DD
      have D : defR s = some (y1, y2) := DD
      have E1 : Hid (dN s = y1) := by show _ = _; unfold dN; rw [D]; rfl
      have E2 : Hid (dV s = y2) := by show _ = _; unfold dV; rw [D]; rfl
      have E3 : Hid ((defR s).isSome = true) := by show _ = _; rw [D]; rfl
      rw [E1.out, E2.out, E3.out]
      clear hc D DD hy1 hy2 hq h1 h2 h3 h4 h5 h6 hs
      go_enter Tryz.func51, Tryz.ntmps51
      go_wp2_with fail
      refine (SP.out _).mono ?_
      rintro e w1 ⟨rfl, b1⟩
      have S1 := Lib.hid (S0.out.later b1)
      have B1 := Lib.hid (B0.out.trans (b1.mono (by simp)))
      clear b1
      go_wp2_with fail
      refine (CT.out _).mono ?_
      rintro e w2 ⟨rfl, rfl⟩
      obtain ⟨c0, c1⟩ := show _ ∧ _ from ⟨S1.out.cell (i := 0) rfl, S1.out.cell (i := 1) rfl⟩
      obtain ⟨f0, f1⟩ := show _ ∧ _ from ⟨S1.out.free 0, S1.out.free 1⟩
      go_wp2
      (try simp only [Exit.inBlock, Exit.then])
      refine bodyPost_ret (v := .tuple #[.agg #[.string (bs y1), .string (bs y2)], .bool true]) ?_ rfl ⟨rfl, ?_⟩
      · rw [results_cell_tmp rfl]; go_simp
      · exact (B1.out.setCell (Nat.le_refl _) _).setCell (Nat.le_refl _) _

/-! definitions -/
theorem defs_step {l : List Str} {k : Nat} (h : k < l.length) : defsR (l.take (k + 1)) = if (defR (l.getD k [])).isSome then defsR (l.take k) ++ [(dN (l.getD k []), dV (l.getD k []))] else defsR (l.take k) := by
  have e : l[k]? = some (l.getD k []) := by rw [List.getD, List.getElem?_eq_getElem h]; rfl
  unfold defsR dN dV
  rw [List.take_add_one, e, List.filterMap_append]
  generalize l.getD k [] = x
  cases hd : defR x with
  | none => simp [hd]
  | some m => simp [hd]
theorem defs_len (l : List Str) : (defsR l).length ≤ l.length := List.length_filterMap_le _ _
set_option maxHeartbeats 4000000 in
theorem defs_any (l : List Str) (v : Value) (w : World) (h : SIn w v l) (hx : ∀ x ∈ l, x.length ≤ 4294967296) (hl : l.length ≤ 4294967296) :
    Calls Tryz.prog 49 #[v] w fun e w' => ∃ u, e = .returned u ∧ MO w.heap.size u (defsR l) w' ∧ Below w.heap.size w w' := by
  obtain ⟨i0, hi, hz0, hz1, hz2⟩ := info_parts infoMc
  have IH := Lib.hid hi
  rcases h.open with ⟨rfl, a, cap, rfl⟩ | ⟨hp, b, off, cap, rfl, hcap, hlt, hc⟩
  · clear h hx hl hi
    go_enter Tryz.func49, Tryz.ntmps49
    go_wp2_with fail
    go_rounds 1
    go_ret
    exact ⟨_, rfl, World.ownsRow_nil _ _ _ _, Below.refl _ _⟩
  · have HC : Hid (∀ W, Below w.heap.size w W → ∀ k, k < l.length → W.cell? ⟨b, off + k, none⟩ = some (.string (bs (l.getD k [])))) := fun W hW k hk => cell_later hW (hc k hk)
    have HS : Hid (∀ k, k < l.length → defsR (l.take (k + 1)) = if (defR (l.getD k [])).isSome then defsR (l.take k) ++ [(dN (l.getD k []), dV (l.getD k []))] else defsR (l.take k)) := fun k hk => defs_step hk
    have HX : Hid (∀ k, k < l.length → (l.getD k []).length ≤ 4294967296) := fun k hk => hx _ (getD_mem hk)
    have HL : Hid (∀ k, (defsR (l.take k)).length ≤ k) := fun k => Nat.le_trans (defs_len _) (List.length_take_le _ _)
    have TL := Lib.hid (List.take_length (l := l))
    clear h hx hc hlt hi
    generalize (fun k => l.getD k []) = g at *
    go_enter Tryz.func49, Tryz.ntmps49
    go_wp2_with fail
    go_loopw [3, 10] (fun s i wr => ∃ k : Nat, k ≤ l.length ∧ i = .int .i64 (k : Int) ∧ MO w.heap.size s (defsR (l.take k)) wr ∧ Below w.heap.size w wr) (fun _ i _ => l.length - (intOf i).toNat)
    case atStart => exact ⟨0, Nat.zero_le _, rfl, World.ownsRow_nil _ _ _ _, Below.refl _ _⟩
    case round =>
      obtain ⟨k, hk, rfl, q1, q2⟩ := hrel
      have Q1 := Lib.hid q1; have Q2 := Lib.hid q2; clear q1 q2
      by_cases hk2 : k < l.length
      · have c1 := HC.out wr Q2.out k hk2
        have X1 := Lib.hid (HX.out k hk2)
        have S1 := Lib.hid (HS.out k hk2)
        generalize l.getD k [] = x at *
        go_wp2_with fail
        refine (def_any x _ X1.out).mono ?_
        rintro e w1 ⟨rfl, b1⟩
        have B1 : Hid (Below w.heap.size w w1) := Q2.out.trans (b1.mono Q2.out.size)
        have O1 : Hid (MO w.heap.size u3 (defsR (l.take k)) w1) := own_later Q1.out b1
        clear b1
        generalize dN x = xa at *
        generalize dV x = xb at *
        have T1 := Lib.hid (blk_new w1 #[.string (bs xa), .string (bs xb)] 72)
        obtain ⟨d0, d1⟩ := show _ ∧ _ from ⟨T1.out.cell (i := 0) rfl, T1.out.cell (i := 1) rfl⟩
        have BA : Hid (Below w.heap.size w (w1.alloc (.cells #[.string (bs xa), .string (bs xb)] 72))) := B1.out.alloc B1.out.size _
        cases hq : (defR x).isSome
        · rw [hq] at S1
          clear hq
          go_wp2
          go_roundw
          case rel => exact ⟨k + 1, by omega, by go_num, by rw [S1.out]; exact O1.out.alloc _, BA.out⟩
          case measure => simp [intOf]; omega
        · rw [hq] at S1
          clear hq
          have TN : Hid (∀ j u, [Value.string (bs xa), Value.string (bs xb)][j]? = some u → ((w1.alloc (.cells #[.string (bs xa), .string (bs xb)] 72)).alloc (.cells #[.string (bs xa), .string (bs xb)] 72)).cell? ((⟨w1.heap.size + 1, 0, none⟩ : Addr).add j) = some u) := fun j u hj => by
            have := two_new (w1.alloc (.cells #[.string (bs xa), .string (bs xb)] 72)) (.string (bs xa)) (.string (bs xb)) 72 j u hj
            rw [show (w1.alloc (.cells #[.string (bs xa), .string (bs xb)] 72)).heap.size = w1.heap.size + 1 by simp] at this
            exact this
          have OA : Hid (∀ o, ((w1.alloc (.cells #[.string (bs xa), .string (bs xb)] 72)).alloc o).ownsRow w.heap.size 72 2 u3 (defsR (l.take k)).length (mcCells (defsR (l.take k)))) := fun o => World.ownsRow.alloc (World.ownsRow.alloc O1.out _) o
          have SA : Hid (∀ o, w.heap.size ≤ ((w1.alloc (.cells #[.string (bs xa), .string (bs xb)] 72)).alloc o).heap.size) := fun o => by have := B1.out.size; simp; omega
          have BB : Hid (∀ o, Below w.heap.size w ((w1.alloc (.cells #[.string (bs xa), .string (bs xb)] 72)).alloc o)) := fun o => BA.out.alloc BA.out.size o
          have LV : Hid (∀ j, u3.ownBlock = some j → w.heap.size ≤ j) := fun j hj => (O1.out.lt j hj).1
          have ll := HL.out k
          go_wp2_with (at_builtin; go_must (refine wpList_append_own _ rfl (.tmp 20) (.tmp 22) 32 rfl w.heap.size 72 i0 (.agg #[.string ByteArray.empty, .string ByteArray.empty]) 2 32 Tryz.underlying32 IH.out hz0 hz1 hz2 rfl (by decide) _ _ _ rfl (OA.out _) ⟨w1.heap.size + 1, 0, none⟩ 1 1 [.string (bs xa), .string (bs xb)] rfl rfl TN.out (by intro u hu; simp at hu; rcases hu with rfl | rfl <;> rfl) (by unfold maxLen; omega) (by omega) (SA.out _) ?_; intro v5 w5 q1 q2 q3; have O5 := Lib.hid q1; have G5 := Lib.hid q2; clear q1 q2 q3))
          go_roundw
          case rel => exact ⟨k + 1, by omega, by go_num, by rw [S1.out, if_pos trivial]; exact MO.snoc O5.out, (BB.out _).grown G5.out (SA.out _) LV.out⟩
          case measure => simp [intOf]; omega
      · obtain rfl : k = l.length := by omega
        go_wp2
        go_ret
        have q := Q1.out
        rw [TL.out] at q
        exact ⟨_, rfl, q, Q2.out⟩
end Go.Proofs.YtfgcbdjkimkgpaaGreatDoor
namespace Go.Proofs.YtfgcbdjkimkgpaaGreatDoor
set_option maxRecDepth 100000
set_option linter.unusedVariables false
open Go.ChangeShapes Go.WideShapes Go.ChangeAt Go.RowKit

theorem any_two : ∀ (x : Str) (a b : UInt8), Lib.containsAny x [a, b] = (x.contains a || x.contains b) := by
  intro x a b
  unfold Lib.containsAny
  induction x with
  | nil => rfl
  | cons c r ih =>
    have hg := Lib.indexAny_ge [a, b] r
    have d1 : (c :: r).contains a = (a == c || r.contains a) := List.contains_cons
    have d2 : (c :: r).contains b = (b == c || r.contains b) := List.contains_cons
    rw [Lib.indexAny, d1, d2]
    by_cases ha : c = a
    · subst ha; simp
    · by_cases hb : c = b
      · subst hb; simp
      · have e1 : (a == c) = false := by simpa using fun e => ha e.symm
        have e2 : (b == c) = false := by simpa using fun e => hb e.symm
        rw [e1, e2, Bool.false_or, Bool.false_or, ← ih]
        by_cases h2 : Lib.indexAny r [a, b] = -1
        · rw [h2]; simp [ha, hb]
        · have e4 : (Lib.indexAny r [a, b] == -1) = false := by simpa using h2
          rw [Bool.eq_iff_iff, decide_eq_true_iff, decide_eq_true_iff]
          simp [ha, hb, e4]
          omega
def asc (x : Str) : Prop := ∀ c ∈ x, c.toNat < 128
theorem isPlain_any (x : Str) (w : World) (hx : x.length ≤ 2147483648) (ha : asc x) :
    Calls Tryz.prog 154 #[.string (bs x)] w fun e w' => e = .returned (.bool (plainS x)) ∧ Below w.heap.size w w' := by
  by_cases h0 : x = []
  · have z : (bs x).toList.isEmpty = true := by rw [h0]; exact bs_none
    have e : plainS x = false := by rw [h0]; rfl
    rw [e]
    clear h0 e ha hx
    go_enter Tryz.func154, Tryz.ntmps154
    go_wp2
    go_ret
    exact ⟨rfl, Below.refl _ _⟩
  · have z : (bs x).toList.isEmpty = false := bs_some h0
    have CA := Lib.hid (Tryz.strings_ContainsAny_laid (bs x) ⟨#[46, 47]⟩ w (by rw [bs_size]; omega) (by decide) (fun j b hb => ha b (List.mem_of_getElem? hb)) (fun j b hb => by
      have := List.mem_of_getElem? hb
      have key : ∀ b ∈ [(46 : UInt8), 47], b.toNat < 128 := by decide
      exact key b this))
    rw [bs_list, any_two] at CA
    have e : plainS x = !(x.contains 46 || x.contains 47) := by
      unfold plainS
      have : x.isEmpty = false := by cases x with
        | nil => exact absurd rfl h0
        | cons _ _ => rfl
      rw [this, Bool.not_or]; rfl
    have E := Lib.hid e
    clear h0 e ha hx
    go_enter Tryz.func154, Tryz.ntmps154
    go_wp2_with fail
    refine CA.out.mono ?_
    rintro e w1 ⟨rfl, hb⟩
    have B := Lib.hid hb
    generalize (x.contains 46 || x.contains 47) = q at *
    clear hb CA
    go_wp2
    go_ret
    exact ⟨by rw [E.out]; rfl, B.out⟩
def pF (s : Str) : Str := ((pairR s).getD ([], [])).1
def pT (s : Str) : Str := ((pairR s).getD ([], [])).2
theorem pairR_cons (r : Str) : pairR (46 :: r) = match cutB 46 r with
    | none => none
    | some p => if plainS p.1 && plainS p.2 then some (46 :: p.1, 46 :: p.2) else none := rfl
theorem pairR_no {s : Str} (h : [46].isPrefixOf s = false) : pairR s = none := by
  cases s with
  | nil => rfl
  | cons c r =>
    have hc : c ≠ 46 := by rintro rfl; simp [List.isPrefixOf] at h
    unfold pairR; simp only []; rw [if_neg hc]
set_option maxHeartbeats 8000000 in
theorem pair_any (s : Str) (w : World) (hs : s.length ≤ 2147483648) (ha : asc s) :
    Calls Tryz.prog 118 #[.string (bs s)] w fun e w' => e = .returned (.tuple #[.agg #[.string (bs (pF s)), .string (bs (pT s))], .bool (pairR s).isSome]) ∧ Below w.heap.size w w' := by
  have S0 := Lib.hid (blk_new w #[.string (bs []), .string (bs [])] 74)
  have B0 : Hid (Below w.heap.size w (w.alloc (.cells #[.string (bs []), .string (bs [])] 74))) := (Below.refl _ _).alloc (Nat.le_refl _) _
  have NO : Hid (pairR s = none → pF s = [] ∧ pT s = [] ∧ (pairR s).isSome = false) := fun h => by unfold pF pT; rw [h]; exact ⟨rfl, rfl, rfl⟩
  have YES : Hid (∀ a b, pairR s = some (a, b) → pF s = a ∧ pT s = b ∧ (pairR s).isSome = true) := fun a b h => by unfold pF pT; rw [h]; exact ⟨rfl, rfl, rfl⟩
  have SL := Lib.hid hs; have AS := Lib.hid ha
  clear hs ha
  go_enter Tryz.func118, Tryz.ntmps118
  go_wp2_with fail
  refine (pre_any s 46 _).mono ?_
  rintro e w1 ⟨rfl, (⟨h1, rfl⟩ | ⟨r, rfl, rfl⟩)⟩
  · obtain ⟨e1, e2, e3⟩ := NO.out (pairR_no h1)
    have E1 := Lib.hid e1; have E2 := Lib.hid e2; have E3 := Lib.hid e3
    have XL : Hid (s.length ≤ 9223372036854775807) := by have := SL.out; show _ ≤ _; omega
    clear h1 e1 e2 e3 NO YES
    go_wp2_with fail
    refine (mcut_any s 46 _ XL.out).mono ?_
    rintro e w2 ⟨hb, he⟩
    have S2 := Lib.hid (S0.out.later hb)
    have B2 := Lib.hid (B0.out.trans (hb.mono B0.out.size))
    obtain ⟨u1, u2, u3, rfl⟩ : ∃ u1 u2 u3, e = .returned (.tuple #[.string u1, .string u2, .bool u3]) := by
      rcases he with ⟨_, rfl⟩ | ⟨a, b, _, _, rfl⟩
      · exact ⟨_, _, _, rfl⟩
      · exact ⟨_, _, _, rfl⟩
    clear hb he
    obtain ⟨c0, c1⟩ := show _ ∧ _ from ⟨S2.out.cell (i := 0) rfl, S2.out.cell (i := 1) rfl⟩
    obtain ⟨f0, f1⟩ := show _ ∧ _ from ⟨S2.out.free 0, S2.out.free 1⟩
    go_wp2
    (try simp only [Exit.inBlock, Exit.then])
    refine bodyPost_ret (v := .tuple #[.agg #[.string (bs []), .string (bs [])], .bool false]) ?_ rfl ⟨by rw [E1.out, E2.out, E3.out], ?_⟩
    · rw [results_cell_tmp rfl]; go_simp; try rfl
    · exact (B2.out.setCell (Nat.le_refl _) _).setCell (Nat.le_refl _) _
  · have RL : Hid (r.length ≤ 2147483648) := by have := SL.out; rw [List.length_cons] at this; show _ ≤ _; omega
    have AR : Hid (asc r) := fun c hc => AS.out c (List.mem_cons_of_mem _ hc)
    have XL : Hid (r.length ≤ 9223372036854775807) := by have := RL.out; show _ ≤ _; omega
    have PC := Lib.hid (pairR_cons r)
    clear SL AS
    go_wp2_with fail
    refine (mcut_any r 46 _ XL.out).mono ?_
    rintro e w2 ⟨hb, (⟨h2, rfl⟩ | ⟨a, b, rfl, h2, rfl⟩)⟩
    · have S2 := Lib.hid (S0.out.later hb)
      have B2 := Lib.hid (B0.out.trans (hb.mono B0.out.size))
      obtain ⟨e1, e2, e3⟩ := NO.out (by rw [PC.out, cutB_no r h2])
      have E1 := Lib.hid e1; have E2 := Lib.hid e2; have E3 := Lib.hid e3
      clear hb h2 e1 e2 e3 NO YES PC
      obtain ⟨c0, c1⟩ := show _ ∧ _ from ⟨S2.out.cell (i := 0) rfl, S2.out.cell (i := 1) rfl⟩
      obtain ⟨f0, f1⟩ := show _ ∧ _ from ⟨S2.out.free 0, S2.out.free 1⟩
      go_wp2
      (try simp only [Exit.inBlock, Exit.then])
      refine bodyPost_ret (v := .tuple #[.agg #[.string (bs []), .string (bs [])], .bool false]) ?_ rfl ⟨by rw [E1.out, E2.out, E3.out], ?_⟩
      · rw [results_cell_tmp rfl]; go_simp; try rfl
      · exact (B2.out.setCell (Nat.le_refl _) _).setCell (Nat.le_refl _) _
    · have S2 := Lib.hid (S0.out.later hb)
      have B2 := Lib.hid (B0.out.trans (hb.mono B0.out.size))
      have PC2 : Hid (pairR (46 :: (a ++ 46 :: b)) = if plainS a && plainS b then some (46 :: a, 46 :: b) else none) := by show _ = _; rw [PC.out, cutB_mk a b h2]
      have LA : Hid (a.length ≤ 2147483648 ∧ b.length ≤ 2147483648) := by have := RL.out; rw [List.length_append, List.length_cons] at this; exact ⟨by omega, by omega⟩
      have AA : Hid (asc a ∧ asc b) := ⟨fun c hc => AR.out c (by simp [hc]), fun c hc => AR.out c (by simp [hc])⟩
      clear hb h2 PC RL AR XL
      go_wp2_with fail
      refine (isPlain_any a _ LA.out.1 AA.out.1).mono ?_
      rintro e w3 ⟨rfl, hb⟩
      have S3 := Lib.hid (S2.out.later hb)
      have B3 := Lib.hid (B2.out.trans (hb.mono B2.out.size))
      clear hb
      cases hpa : plainS a
      · obtain ⟨e1, e2, e3⟩ := NO.out (by rw [PC2.out, hpa]; rfl)
        have E1 := Lib.hid e1; have E2 := Lib.hid e2; have E3 := Lib.hid e3
        clear hpa e1 e2 e3 NO YES PC2
        obtain ⟨c0, c1⟩ := show _ ∧ _ from ⟨S3.out.cell (i := 0) rfl, S3.out.cell (i := 1) rfl⟩
        obtain ⟨f0, f1⟩ := show _ ∧ _ from ⟨S3.out.free 0, S3.out.free 1⟩
        go_wp2
        (try simp only [Exit.inBlock, Exit.then])
        refine bodyPost_ret (v := .tuple #[.agg #[.string (bs []), .string (bs [])], .bool false]) ?_ rfl ⟨by rw [E1.out, E2.out, E3.out], ?_⟩
        · rw [results_cell_tmp rfl]; go_simp; try rfl
        · exact (B3.out.setCell (Nat.le_refl _) _).setCell (Nat.le_refl _) _
      · have PC3 : Hid (pairR (46 :: (a ++ 46 :: b)) = if plainS b then some (46 :: a, 46 :: b) else none) := by show _ = _; rw [PC2.out, hpa, Bool.true_and]
        clear hpa PC2
        go_wp2_with fail
        refine (isPlain_any b _ LA.out.2 AA.out.2).mono ?_
        rintro e w4 ⟨rfl, hb⟩
        have S4 := Lib.hid (S3.out.later hb)
        have B4 := Lib.hid (B3.out.trans (hb.mono B3.out.size))
        clear hb
        obtain ⟨c0, c1⟩ := show _ ∧ _ from ⟨S4.out.cell (i := 0) rfl, S4.out.cell (i := 1) rfl⟩
        obtain ⟨f0, f1⟩ := show _ ∧ _ from ⟨S4.out.free 0, S4.out.free 1⟩
        cases hpb : plainS b
        · obtain ⟨e1, e2, e3⟩ := NO.out (by rw [PC3.out, hpb]; rfl)
          have E1 := Lib.hid e1; have E2 := Lib.hid e2; have E3 := Lib.hid e3
          clear hpb e1 e2 e3 NO YES PC3
          go_wp2
          (try simp only [Exit.inBlock, Exit.then])
          refine bodyPost_ret (v := .tuple #[.agg #[.string (bs []), .string (bs [])], .bool false]) ?_ rfl ⟨by rw [E1.out, E2.out, E3.out], ?_⟩
          · rw [results_cell_tmp rfl]; go_simp; try rfl
          · exact (B4.out.setCell (Nat.le_refl _) _).setCell (Nat.le_refl _) _
        · obtain ⟨e1, e2, e3⟩ := YES.out (46 :: a) (46 :: b) (by rw [PC3.out, hpb]; rfl)
          have E1 := Lib.hid e1; have E2 := Lib.hid e2; have E3 := Lib.hid e3
          have k1 : ByteArray.mk #[46] ++ bs a = bs (46 :: a) := by rw [show ByteArray.mk #[46] = bs [46] from rfl, bs_append]; rfl
          have k2 : ByteArray.mk #[46] ++ bs b = bs (46 :: b) := by rw [show ByteArray.mk #[46] = bs [46] from rfl, bs_append]; rfl
          have s0 : (ByteArray.mk #[46]).size = 1 := rfl
          have s1 := bs_size a
          have s2 := bs_size b
          obtain ⟨la, lb⟩ := LA.out
          clear hpb e1 e2 e3 NO YES PC3
          generalize hA : bs (46 :: a) = A at *
          generalize hC : bs (46 :: b) = C at *
          have HA := Lib.hid hA; have HC := Lib.hid hC
          clear hA hC
          go_wp2
          (try simp only [Exit.inBlock, Exit.then])
          refine bodyPost_ret (v := .tuple #[.agg #[.string A, .string C], .bool true]) ?_ rfl ⟨by rw [E1.out, E2.out, E3.out, HA.out, HC.out], ?_⟩
          · rw [results_cell_tmp rfl]; go_simp; try rfl
          · exact (B4.out.setCell (Nat.le_refl _) _).setCell (Nat.le_refl _) _
end Go.Proofs.YtfgcbdjkimkgpaaGreatDoor
