/-
  Package line's Words and package rule's Parse once more: what they hand back lies in new blocks of its own. Condition: the string is shorter than 2^32 bytes.
  What the reference's WordsOf and Split (at newlines) answer. Condition: the string is shorter than 2^32 bytes.
  Rows of strings of the call's own whose block holds strings alone, also behind the slice's end; append keeps this. No condition.
  What package rule's needsOf answers. Condition: at most 100 rules with at most 20 needs each.
  What package rule's Join answers. No condition beyond the form's own.
-/
import Derived.Test.YtfgcbdjkimkgpaaGreatDoorGc19MEx
import Derived.Test.YtfgcbdjkimkgpaaGreatDoorGc13RPar
import Derived.Test.YtfgcbdjkimkgpaaGreatDoorGc9LRa
import Derived.Test.YtfgcbdjkimkgpaaGreatDoorGc8LWp
import Derived.Test.YtfgcbdjkimkgpaaGreatDoorGc7LFn
namespace Go.Proofs.YtfgcbdjkimkgpaaGreatDoor
set_option maxRecDepth 100000
set_option linter.unusedVariables false
open Go.ChangeShapes Go.WideShapes Go.ChangeAt Go.RowKit

theorem fields_own (S : ByteArray) (w : World) (hs : S.size ≤ 4294967296) :
    Calls Tryz.prog 131 #[.string S, .func (.func 132) #[] #[]] w fun e w' => ∃ v, e = .returned v ∧ SO w.heap.size v (words S.data.toList) w' ∧ Below w.heap.size w w' := by
  have hp : PredAtRunes Tryz.prog 132 #[] blR w := fun W x _ _ => (pred_any x W).mono fun e w' ⟨h1, h2⟩ => ⟨h1, 0, h2⟩
  refine (Tryz.strings_FieldsFunc_runes 132 #[] (enters_of Tryz.func132 (by kernel_rfl) rfl) blR S w hs hp).mono ?_
  rintro e w' ⟨a, rfl, _, h2, h3⟩
  have hl : (Lib.goFieldsP blR S).length = (words S.data.toList).length := by rw [← fields_words, List.length_map]
  have hv : (Lib.goFieldsP blR S).map Value.string = (words S.data.toList).map encStr := by
    rw [← fields_words, List.map_map]
    apply List.map_congr_left
    intro x _
    rw [Function.comp, encStr_bs, bs_of]
  rw [hv, hl] at h2
  rw [hl]
  exact ⟨_, rfl, h2, h3⟩
theorem words_own (S : ByteArray) (w : World) (hs : S.size ≤ 4294967296) :
    Calls Tryz.prog 102 #[.string S] w fun e w' => ∃ v, e = .returned v ∧ SO w.heap.size v (words S.data.toList) w' ∧ Below w.heap.size w w' := by
  have HC := Lib.hid (fields_own S w hs)
  go_enter Tryz.func102, Tryz.ntmps102
  go_wp2_with fail
  refine HC.out.mono ?_
  rintro e w' ⟨v, rfl, h1, h2⟩
  have H1 := Lib.hid h1; have H2 := Lib.hid h2; clear h1 h2
  go_wp2
  go_ret
  exact ⟨_, rfl, H1.out, H2.out⟩
theorem so_base {w : World} {b1 b2 : Nat} {v : Value} {z : List Str} (h : SO b1 v z w) (hb : b2 ≤ b1) : SO b2 v z w := by
  refine ⟨h.1, ?_⟩
  rcases h.2 with k | ⟨g, cap, cur, h1, h2, r⟩
  · exact .inl k
  · exact .inr ⟨g, cap, cur, h1, Nat.le_trans hb h2, r⟩
/-- what Parse hands back -/
def ParseOwn (s : Str) (w : World) (e : Ending) (w' : World) : Prop :=
  ∃ vt vn, e = .returned (.tuple #[.agg #[vt, vn], .int .i64 (parseR s).2]) ∧ SO w.heap.size vt (parseR s).1.1 w' ∧ SO w.heap.size vn (parseR s).1.2 w' ∧ (∀ k, vt.ownBlock = some k → vn.ownBlock ≠ some k) ∧ Below w.heap.size w w'
set_option maxHeartbeats 4000000 in
theorem parseO_some (S : ByteArray) (w : World) (hs : S.size ≤ 4294967296) (p : Str × Str) (h : colon S.data.toList = some p) :
    Calls Tryz.prog 85 #[.string S] w (ParseOwn S.data.toList w) := by
  obtain ⟨h1, h2, h3, h4, h5⟩ := colon_some h
  rw [size_list] at h1
  have l1 : p.1.length ≤ 4294967296 := by omega
  have l2 : p.2.length ≤ 4294967296 := by rw [← h5, List.length_drop, size_list]; omega
  have SP : Hid (∀ W, Calls Tryz.prog 82 #[.string S, .int .u8 58] W fun e w' => e = .returned (.tuple #[.string (bs (triml (trimr p.1))), .string (bs (triml (trimr p.2))), .bool true]) ∧ Below W.heap.size W w') := fun W => by
    have := split_at S 58 p.1.length W (by omega) h1 h2 h3
    rw [h4, h5] at this
    exact this
  have WD : Hid (∀ (x : Str) W, x.length ≤ 4294967296 → Calls Tryz.prog 102 #[.string (bs (triml (trimr x)))] W fun e w' => ∃ v, e = .returned v ∧ SO W.heap.size v (words x) w' ∧ Below W.heap.size W w') := fun x W hx => by
    have := words_own (bs (triml (trimr x))) W (by rw [bs_size]; have := triml_le (trimr x); have := trimr_le x; omega)
    rw [bs_list, words_trim] at this
    exact this
  have WD1 : Hid (∀ W, Calls Tryz.prog 102 #[.string (bs (triml (trimr p.1)))] W fun e w' => ∃ v, e = .returned v ∧ SO W.heap.size v (words p.1) w' ∧ Below W.heap.size W w') := fun W => WD.out p.1 W l1
  have WD2 : Hid (∀ W, Calls Tryz.prog 102 #[.string (bs (triml (trimr p.2)))] W fun e w' => ∃ v, e = .returned v ∧ SO W.heap.size v (words p.2) w' ∧ Below W.heap.size W w') := fun W => WD.out p.2 W l2
  have SM1 := Lib.hid (words_small p.1 l1)
  have SM2 := Lib.hid (words_small p.2 l2)
  have OK : Hid (chkR (words p.1, words p.2) = 0 → parseR S.data.toList = ((words p.1, words p.2), 0)) := fun k => parseR_ok h k
  have BAD : Hid (chkR (words p.1, words p.2) ≠ 0 → parseR S.data.toList = (([], []), chkR (words p.1, words p.2))) := fun k => parseR_bad h k
  unfold ParseOwn
  clear WD h h1 h2 h3 h4 h5 l1 l2 hs
  generalize parseR S.data.toList = R at *
  generalize bs (triml (trimr p.1)) = y1 at *
  generalize bs (triml (trimr p.2)) = y2 at *
  generalize words p.1 = t at *
  generalize words p.2 = n at *
  have S0 := Lib.hid (stayR_new w (.slice none 0 0) (.slice none 0 0))
  have B0 : Hid (Below w.heap.size w (w.alloc (.cells #[.slice none 0 0, .slice none 0 0] 82))) := (Below.refl _ _).alloc (Nat.le_refl _) _
  go_enter Tryz.func85, Tryz.ntmps85
  go_wp2_with fail
  refine (SP.out _).mono ?_
  rintro e w1 ⟨rfl, b1⟩
  have S1 := Lib.hid (S0.out.later b1)
  have B1 := Lib.hid (B0.out.trans (b1.mono (by simp)))
  clear b1
  go_wp2_with fail
  refine (WD1.out _).mono ?_
  rintro e w2 ⟨v1, rfl, i1, b2⟩
  have S2 := Lib.hid (S1.out.later b2)
  have B2 := Lib.hid (B1.out.trans (b2.mono B1.out.size))
  have I2 : Hid (SO w.heap.size v1 t w2) := so_base i1 B1.out.size
  have L2 : Hid (∀ k, v1.ownBlock = some k → k < w2.heap.size) := fun k hk => (i1.lt k hk).2
  clear b2 i1
  go_wp2_with fail
  refine (WD2.out _).mono ?_
  rintro e w3 ⟨v2, rfl, i2, b3⟩
  have S3 := Lib.hid (S2.out.later b3)
  have B3 := Lib.hid (B2.out.trans (b3.mono B2.out.size))
  have I3 : Hid (SO w.heap.size v1 t w3) := own_later I2.out b3
  have J3 : Hid (SO w.heap.size v2 n w3) := so_base i2 B2.out.size
  have AP : Hid (∀ k, v1.ownBlock = some k → v2.ownBlock ≠ some k) := fun k hk hk2 => by have := L2.out k hk; have := (i2.lt k hk2).1; omega
  clear b3 i2
  have P3 : Hid (SIn w3 v1 t) := SIn.own I3.out SM1.out.1 SM1.out.2
  have Q3 : Hid (SIn w3 v2 n) := SIn.own J3.out SM2.out.1 SM2.out.2
  obtain ⟨a1, c1, rfl⟩ := P3.out.shape
  obtain ⟨a2, c2, rfl⟩ := Q3.out.shape
  have b4 : Below w3.heap.size w3 (w3.alloc (.cells #[.slice a1 t.length c1, .slice a2 n.length c2] 82)) := (Below.refl _ _).alloc (Nat.le_refl _) _
  have S4 := Lib.hid (S3.out.later b4)
  have B4 := Lib.hid (B3.out.trans (b4.mono B3.out.size))
  have I4 := Lib.hid (own_later I3.out b4)
  have J4 := Lib.hid (own_later J3.out b4)
  have P4 := Lib.hid (P3.out.later b4)
  have Q4 := Lib.hid (Q3.out.later b4)
  have K4 := Lib.hid (stayR_new w3 (.slice a1 t.length c1) (.slice a2 n.length c2))
  clear b4 P3 Q3
  generalize eT : t.length = lt at *
  generalize eN : n.length = ln at *
  have ET := Lib.hid eT; have EN := Lib.hid eN
  clear eT eN
  go_wp2_with fail
  refine (rcheck_any P4.out Q4.out).mono ?_
  rintro e w5 ⟨rfl, b5⟩
  have S5 := Lib.hid (S4.out.later b5)
  have B5 := Lib.hid (B4.out.trans (b5.mono B4.out.size))
  have I5 := Lib.hid (own_later I4.out b5)
  have J5 := Lib.hid (own_later J4.out b5)
  have K5 := Lib.hid (K4.out.later b5)
  clear b5
  obtain ⟨k0, k1⟩ := K5.out.cells
  obtain ⟨s0, s1⟩ := S5.out.cells
  obtain ⟨f0, f1⟩ := S5.out.thaw
  have OTH : Hid (∀ (v : Value) (m : Nat) (xs : List Value), w5.ownsRow w.heap.size 9 1 v m xs → v.ownBlock ≠ some w.heap.size) := fun v m xs h hk => by
    rcases h.2 with ⟨rfl, _⟩ | ⟨g, cap, cur, rfl, _, hg, _⟩
    · cases hk
    · have : g = w.heap.size := Option.some.inj hk
      subst this
      have st : w5.heap[w.heap.size]? = some (.cells #[.slice none 0 0, .slice none 0 0] 82 (0, 0)) := S5.out
      rw [st] at hg
      cases hg
  have SX : Hid (∀ (v : Value) (m : Nat) (xs : List Value) (u1 u2 : Value), w5.ownsRow w.heap.size 9 1 v m xs → ((w5.setCell ⟨w.heap.size, 0, none⟩ u1).setCell ⟨w.heap.size, 1, none⟩ u2).ownsRow w.heap.size 9 1 v m xs) := fun v m xs u1 u2 h => by
    have h1 : (w5.setCell ⟨w.heap.size, 0, none⟩ u1).ownsRow w.heap.size 9 1 v m xs := ownsRow_setCell_other h (by exact OTH.out _ _ _ h) _
    exact ownsRow_setCell_other h1 (by exact OTH.out _ _ _ h) _
  by_cases hc : chkR (t, n) = 0
  · have E := Lib.hid (OK.out hc)
    rw [hc]
    clear hc
    go_wp2
    (try simp only [Exit.inBlock, Exit.then])
    refine bodyPost_ret (v := .tuple #[.agg #[.slice a1 lt c1, .slice a2 ln c2], .int .i64 0]) ?_ rfl ⟨.slice a1 lt c1, .slice a2 ln c2, by rw [E.out], ?_, ?_, AP.out, (B5.out.setCell (Nat.le_refl _) _).setCell (Nat.le_refl _) _⟩
    · rw [results_cell_tmp rfl]; go_simp
    · rw [E.out]; show World.ownsRow _ _ _ _ _ t.length _; rw [ET.out]; exact SX.out _ _ _ _ _ I5.out
    · rw [E.out]; show World.ownsRow _ _ _ _ _ n.length _; rw [EN.out]; exact SX.out _ _ _ _ _ J5.out
  · have hne : (chkR (t, n) != 0) = true := by rw [bne_iff_ne]; exact hc
    have E := Lib.hid (BAD.out hc)
    clear hc
    go_wp2
    (try simp only [Exit.inBlock, Exit.then])
    refine bodyPost_ret (v := .tuple #[.agg #[.slice none 0 0, .slice none 0 0], .int .i64 (chkR (t, n))]) ?_ rfl ⟨.slice none 0 0, .slice none 0 0, by rw [E.out], ?_, ?_, (fun k hk => by cases hk), (B5.out.setCell (Nat.le_refl _) _).setCell (Nat.le_refl _) _⟩
    · rw [results_cell_tmp rfl]; go_simp
    · rw [E.out]; exact World.ownsRow_nil _ _ _ _
    · rw [E.out]; exact World.ownsRow_nil _ _ _ _
theorem parseO_none (S : ByteArray) (w : World) (h : colon S.data.toList = none) :
    Calls Tryz.prog 85 #[.string S] w (ParseOwn S.data.toList w) := by
  have SP : Hid (∀ W, Calls Tryz.prog 82 #[.string S, .int .u8 58] W fun e w' => e = .returned (.tuple #[.string S, .string (ByteArray.mk #[]), .bool false]) ∧ w' = W) := fun W => split_no S 58 W (fun j hj => colon_none h j (by rw [size_list]; exact hj))
  unfold ParseOwn
  rw [parseR_none h]
  clear h
  go_enter Tryz.func85, Tryz.ntmps85
  go_wp2_with fail
  refine (SP.out _).mono ?_
  rintro e w' ⟨rfl, rfl⟩
  go_wp2
  (try simp only [Exit.inBlock, Exit.then])
  refine bodyPost_ret (v := .tuple #[.agg #[.slice none 0 0, .slice none 0 0], .int .i64 3]) ?_ rfl ⟨.slice none 0 0, .slice none 0 0, rfl, World.ownsRow_nil _ _ _ _, World.ownsRow_nil _ _ _ _, (fun k hk => by cases hk), (Below.refl _ _).alloc (Nat.le_refl _) _⟩
  rw [results_cell_tmp rfl]; go_simp
theorem parseO_any (S : ByteArray) (w : World) (hs : S.size ≤ 4294967296) : Calls Tryz.prog 85 #[.string S] w (ParseOwn S.data.toList w) := by
  cases h : colon S.data.toList with
  | none => exact parseO_none S w h
  | some p => exact parseO_some S w hs p h
end Go.Proofs.YtfgcbdjkimkgpaaGreatDoor
namespace Go.Proofs.YtfgcbdjkimkgpaaGreatDoor
set_option maxRecDepth 100000
open Go.ChangeShapes Go.WideShapes Go.ChangeAt Go.RowKit

set_option maxHeartbeats 2000000 in
set_option maxRecDepth 100000 in
theorem wordsOf_any (S : ByteArray) (w : World) (hs : S.size ≤ 4294967296) :
    Calls Tryz.prog 72 #[.string S] w fun e w' => ∃ v, e = .returned v ∧ SO w.heap.size v (words S.data.toList) w' ∧ Below w.heap.size w w' := by
  have HF : Hid (∀ k (h : k < S.size), S[k].toNat = (bK S k).toNat) := bK_get S
  have HX : Hid (∀ k, k < S.size → S.extract k (k + 1) = bs [bK S k]) := bK_ext S
  have HD : Hid (∀ k, k < S.size → S.data.toList.drop k = bK S k :: S.data.toList.drop (k + 1)) := drop_bK S
  have HN : Hid (S.data.toList.drop S.size = []) := Lib.hid (by rw [← size_list]; exact List.drop_length)
  obtain ⟨i0, hi, hz0, hz1, hz2⟩ := info_parts infoStr
  have HI := Lib.hid hi; clear hi
  generalize bK S = f at *
  generalize S.data.toList = s at *
  have W0 : Hid (words s = [] ++ wgo [] (s.drop 0)) := rfl
  go_enter Tryz.func72, Tryz.ntmps72
  go_wp2_with fail
  go_loopw [3, 4, 9] (fun o x i wr => ∃ (k : Nat) (out : List Str) (word : Str), k ≤ S.size + 1 ∧ SO w.heap.size o out wr ∧ x = .string (bs word) ∧ i = .int .i64 (k : Int) ∧ (k ≤ S.size → words s = out ++ wgo word (s.drop k)) ∧ (k = S.size + 1 → words s = out) ∧ word.length ≤ k ∧ out.length ≤ k ∧ Below w.heap.size w wr) (fun _ _ i _ => S.size + 1 - (intOf i).toNat)
  case atStart => exact ⟨0, [], [], Nat.zero_le _, World.ownsRow_nil _ _ _ _, rfl, rfl, fun _ => W0.out, fun h => by omega, Nat.le_refl _, Nat.le_refl _, Below.refl _ _⟩
  case round =>
    obtain ⟨k, out, word, hk, qo, rfl, rfl, q1, q2, hw, ho, qb⟩ := hrel
    have QO := Lib.hid qo; have Q1 := Lib.hid q1; have Q2 := Lib.hid q2; have QB := Lib.hid qb; clear qo q1 q2 qb
    by_cases hk1 : k = S.size + 1
    · have E := Lib.hid (Q2.out hk1)
      subst hk1
      have t1 : decide (((S.size + 1 : Nat) : Int) < (S.size : Int) + 1) = false := decide_eq_false (by omega)
      go_wp2
      go_ret
      rw [E.out]
      exact ⟨_, rfl, QO.out, QB.out⟩
    · have hk2 : k ≤ S.size := by omega
      have E := Lib.hid (Q1.out hk2)
      clear Q1 Q2
      have OA : Hid (∀ o, (wr.alloc o).ownsRow w.heap.size 9 1 u3 out.length (out.map encStr)) := fun o => QO.out.alloc o
      have SA : Hid (∀ o, w.heap.size ≤ (wr.alloc o).heap.size) := fun o => by have := QB.out.size; simp; omega
      have LT : Hid (∀ k, u3.ownBlock = some k → w.heap.size ≤ k) := fun k hk => (QO.out.lt k hk).1
      have WA : Hid (∀ o, Below w.heap.size w (wr.alloc o)) := fun o => QB.out.alloc QB.out.size o
      by_cases hlt : k < S.size
      · have hb := HF.out k hlt
        have hx := HX.out k hlt
        have D := Lib.hid (HD.out k hlt)
        have h1 : (bs [f k]).size = 1 := bs_size _
        have h2 : (bs word).size = word.length := bs_size _
        have hr : decide ((k : Int) < (S.size : Int) + 1) = true := decide_eq_true (by omega)
        go_wp2_with fail
        refine (blank_any (f k) _).mono ?_
        rintro e w' ⟨rfl, rfl⟩
        rename World => wr
        cases hc : bl (f k) with
        | false =>
          have HC := Lib.hid hc; clear hc
          go_wp2
          go_roundw
          case rel =>
            refine ⟨k + 1, out, word ++ [f k], by omega, QO.out, by rw [bs_app], by go_num, fun _ => ?_, fun h => by omega, by simp; omega, by omega, QB.out⟩
            rw [E.out, D.out, wgo, HC.out]; rfl
          case measure => simp [intOf]; omega
        | true =>
          have HC := Lib.hid hc; clear hc
          by_cases hw0 : word = []
          · subst hw0
            have hz : bs [] = ByteArray.mk #[] := rfl
            rw [hz]
            go_wp2
            go_roundw
            case rel =>
              refine ⟨k + 1, out, [], by omega, QO.out, rfl, by go_num, fun _ => ?_, fun h => by omega, by simp, by omega, QB.out⟩
              rw [E.out, D.out, wgo_skip HC.out]
            case measure => simp [intOf]; omega
          · have ne := bs_some hw0
            have HW := Lib.hid hw0; clear hw0
            go_wp2_with (at_builtin; go_must (refine wpList_append_own _ rfl (.tmp 32) (.tmp 34) 27 rfl w.heap.size 9 i0 (.string ByteArray.empty) 1 16 Tryz.underlying27 HI.out hz0 hz1 hz2 rfl (by decide) _ _ _ rfl (OA.out _) ⟨wr.heap.size, 0, none⟩ 1 1 [.string (bs word)] rfl rfl (cell_one' _ _ _) (by intro u hu; simp at hu; rcases hu with rfl; rfl) (by unfold maxLen; omega) (by omega) (SA.out _) ?_; intro v4 w4 q1 q2 q3; have O4 := Lib.hid q1; have G4 := Lib.hid q2; clear q1 q2 q3))
            go_roundw
            case rel =>
              refine ⟨k + 1, out ++ [word], [], by omega, SO.snoc O4.out, rfl, by go_num, ?_, ?_, by simp, by simp; omega, (WA.out _).grown G4.out (SA.out _) LT.out⟩
              · intro _; rw [E.out, D.out, wgo_cut HW.out HC.out]; simp
              · intro h; omega
            case measure => simp [intOf]; omega
      · obtain rfl : k = S.size := by omega
        rw [HN.out] at E
        have hr : decide ((S.size : Int) < (S.size : Int) + 1) = true := decide_eq_true (by omega)
        have hr2 : decide ((S.size : Int) < (S.size : Int)) = false := decide_eq_false (by omega)
        by_cases hw0 : word = []
        · subst hw0
          have hz : bs [] = ByteArray.mk #[] := rfl
          rw [hz]
          clear hk hk2 hlt hk1
          go_wp2
          go_roundw
          case rel =>
            refine ⟨S.size + 1, out, [], by omega, QO.out, rfl, by go_num, fun h => by omega, fun _ => ?_, by simp, by omega, QB.out⟩
            rw [E.out]; simp [wgo]
          case measure => simp [intOf]
        · have ne := bs_some hw0
          have HW := Lib.hid hw0; clear hw0 hk hk2 hlt hk1
          go_wp2_with (at_builtin; go_must (refine wpList_append_own _ rfl (.tmp 32) (.tmp 34) 27 rfl w.heap.size 9 i0 (.string ByteArray.empty) 1 16 Tryz.underlying27 HI.out hz0 hz1 hz2 rfl (by decide) _ _ _ rfl (OA.out _) ⟨wr.heap.size, 0, none⟩ 1 1 [.string (bs word)] rfl rfl (cell_one' _ _ _) (by intro u hu; simp at hu; rcases hu with rfl; rfl) (by unfold maxLen; omega) (by omega) (SA.out _) ?_; intro v4 w4 q1 q2 q3; have O4 := Lib.hid q1; have G4 := Lib.hid q2; clear q1 q2 q3))
          go_roundw
          case rel =>
            refine ⟨S.size + 1, out ++ [word], [], by omega, SO.snoc O4.out, rfl, by go_num, ?_, ?_, by simp, by simp; omega, (WA.out _).grown G4.out (SA.out _) LT.out⟩
            · intro h; omega
            · intro _; rw [E.out, wgo_end HW.out]
          case measure => simp [intOf]
end Go.Proofs.YtfgcbdjkimkgpaaGreatDoor
namespace Go.Proofs.YtfgcbdjkimkgpaaGreatDoor
set_option maxRecDepth 100000
set_option linter.unusedVariables false
open Go.ChangeShapes Go.WideShapes Go.ChangeAt Go.RowKit

/-- a string of at most 2^32 bytes -/
def Ss (u : Value) : Prop := ∃ s : ByteArray, u = .string s ∧ s.size ≤ 4294967296
/-- every cell of the slice's block is such a string -/
def Tl (v : Value) (w : World) : Prop := ∀ g, v.ownBlock = some g → ∃ cur : Array Value, w.heap[g]? = some (.cells cur 9 (0, 0)) ∧ ∀ u ∈ cur.toList, Ss u
theorem Tl.nil (w : World) (n c : Nat) : Tl (.slice none n c) w := fun g h => by cases h
theorem heap_lt {w : World} {g : Nat} {o : Obj} (h : w.heap[g]? = some o) : g < w.heap.size := (Array.getElem?_eq_some_iff.1 h).1
theorem Tl.later {v : Value} {w w' : World} (h : Tl v w) (hb : Below w.heap.size w w') : Tl v w' := fun g hg => by
  obtain ⟨cur, h1, h2⟩ := h g hg
  exact ⟨cur, (hb.block g (heap_lt h1)).trans h1, h2⟩
theorem Tl.kept {v : Value} {w w' : World} {row : Option Nat} (h : Tl v w) (hg : w.grownBy w' row) (hne : v.ownBlock = none ∨ v.ownBlock ≠ row) : Tl v w' := fun g hv => by
  obtain ⟨cur, h1, h2⟩ := h g hv
  refine ⟨cur, (hg.block g (heap_lt h1) ?_).trans h1, h2⟩
  rcases hne with h' | h'
  · rw [h'] at hv; cases hv
  · rw [← hv]; exact h'
theorem Tl.alloc {v : Value} {w : World} (h : Tl v w) (o : Obj) : Tl v (w.alloc o) := h.later ((Below.refl _ w).alloc (Nat.le_refl _) o)
theorem tl_one (w : World) (x : ByteArray) (hx : x.size ≤ 4294967296) : Tl (.slice (some ⟨w.heap.size, 0, none⟩) 1 1) (w.alloc (.cells #[.string x] 9)) := fun g hg => by
  have e : w.heap.size = g := Option.some.inj hg
  subst e
  exact ⟨_, heap_alloc_new _ _, fun u hu => by simp at hu; exact ⟨x, hu, hx⟩⟩
theorem zero_ss (n : Nat) : ∀ u ∈ (Builtin.zeroCells (Value.cells (.string ByteArray.empty)) n).toList, Ss u := by
  intro u hu
  simp only [Builtin.zeroCells, Value.cells, Array.toList_map, List.mem_map] at hu
  obtain ⟨i, _, rfl⟩ := hu
  refine ⟨ByteArray.empty, ?_, by decide⟩
  simp [Nat.mod_one]

theorem run_append_tl (w : World) (base : Nat) (ty : TypeId) (i0 : TypeInfo) (hi : Tryz.prog.info? 9 = some i0) (hz0 : i0.zero = some (.string ByteArray.empty)) (hz1 : i0.size = 1) (hz2 : i0.bytes = 16)
    (v : Value) (n : Nat) (xs : List Value) (hown : w.ownsRow base 9 1 v n xs) (ht : Tl v w) (ad : Addr) (c : Nat) (x : ByteArray) (hnews : ∀ j u, [Value.string x][j]? = some u → w.cell? (ad.add j) = some u) (hxs : x.size ≤ 4294967296)
    (h63 : n + 1 ≤ maxLen) (hbytes : (n + 1) * 16 ≤ 140737488355328) (hbase : base ≤ w.heap.size) :
    ∃ v' w', (Builtin.append_ #[27, 27] ty #[v, .slice (some ad) 1 c]).run Tryz.prog w = .ok v' w' ∧ w'.ownsRow base 9 1 v' (n + 1) (xs ++ [.string x]) ∧ w.grownBy w' v.ownBlock ∧ Tl v' w' := by
  have h1 : ∀ u ∈ [Value.string x], u.oneCell' = true := by intro u hu; simp at hu; subst hu; rfl
  obtain ⟨v', w', hr, h2, h3, _⟩ := run_append_own (P := Tryz.prog) w base 27 ty 9 i0 (.string ByteArray.empty) 1 16 Tryz.underlying27 hi hz0 hz1 hz2 rfl (by decide) v n xs hown ad 1 c [.string x] rfl hnews h1 h63 hbytes hbase
  refine ⟨v', w', hr, h2, h3, ?_⟩
  have hx : Ss (.string x) := ⟨x, rfl, hxs⟩
  rcases hown.2 with ⟨rfl, rfl⟩ | ⟨g, cap, cur, rfl, hbg, hg, hnc, hcm, hcs, htake⟩
  · have hr' := run_append_nil (P := Tryz.prog) w 27 ty 9 i0 (.string ByteArray.empty) Tryz.underlying27 hi hz0 ad 1 c [.string x] (by rw [hz1]; rfl) hnews (by decide) (by decide) (by rw [hz2]; decide)
    rw [hr'] at hr
    cases hr
    intro g hg
    have e : w.heap.size = g := Option.some.inj hg
    subst e
    refine ⟨_, heap_alloc_new w.drew _, fun u hu => ?_⟩
    rw [Array.toList_append] at hu
    rcases List.mem_append.1 hu with h' | h'
    · simp at h'; subst h'; exact hx
    · exact zero_ss _ u h'
  · obtain ⟨cur', hc1, hc2⟩ := ht g rfl
    rw [hg] at hc1
    cases hc1
    by_cases hroom : n + 1 ≤ cap
    · have hr' := run_append_room (P := Tryz.prog) w 27 ty 9 i0 Tryz.underlying27 hi g n cap cur hg ad 1 c [.string x] (by rw [hz1]; rfl) hnews h1 hroom (by rw [hz1, hcs]; simp; omega)
      rw [hr'] at hr
      cases hr
      intro g' hg'
      have e : g = g' := Option.some.inj hg'
      subst e
      refine ⟨_, setRow_heap w g cur _ 9 _ hg, fun u hu => ?_⟩
      simp only [List.mem_append] at hu
      rcases hu with (h' | h') | h'
      · exact hc2 u (List.mem_of_mem_take h')
      · simp at h'; subst h'; exact hx
      · exact hc2 u (List.mem_of_mem_drop h')
    · have holds : ∀ j u, xs[j]? = some u → w.cell? ((⟨g, 0, none⟩ : Addr).add j) = some u := hown.cells (g := g) rfl
      have hxl := hown.1
      have hr' := run_append_grow (P := Tryz.prog) w 27 ty 9 i0 (.string ByteArray.empty) Tryz.underlying27 hi hz0 ⟨g, 0, none⟩ n cap xs (by rw [hz1]; exact hxl) holds ad 1 c [.string x] (by rw [hz1]; rfl) hnews (by omega) (by unfold maxLen at h63; omega) (by rw [hz2]; exact growslice_fits (by omega) hbytes)
      rw [hr'] at hr
      cases hr
      intro g' hg'
      have e : w.heap.size = g' := Option.some.inj hg'
      subst e
      refine ⟨_, heap_alloc_new w.drew _, fun u hu => ?_⟩
      rw [Array.toList_append, Array.toList_append] at hu
      rcases List.mem_append.1 hu with h' | h'
      · rcases List.mem_append.1 h' with h' | h'
        · rw [← htake] at h'; exact hc2 u (List.mem_of_mem_take h')
        · simp at h'; subst h'; exact hx
      · exact zero_ss _ u h'
theorem wpList_append_tl (w : World) {ops : Array Oper} {rest : List Oper} {o : Oper} {a : Act} {Q : Exit → Act → World → Prop} (hgd : o.guard = none) (s x : Operand)
    (ho : o.op = .call { callee := .builtin .append, args := #[s, x], argTypes := #[27, 27] })
    (base : Nat) (i0 : TypeInfo) (hi : Tryz.prog.info? 9 = some i0) (hz0 : i0.zero = some (.string ByteArray.empty)) (hz1 : i0.size = 1) (hz2 : i0.bytes = 16)
    (v : Value) (n : Nat) (xs : List Value) (hs : a.eval s = v) (hown : w.ownsRow base 9 1 v n xs) (ht : Tl v w)
    (ad : Addr) (c : Nat) (y : ByteArray) (hx : a.eval x = .slice (some ad) 1 c) (hnews : ∀ j u, [Value.string y][j]? = some u → w.cell? (ad.add j) = some u) (hxs : y.size ≤ 4294967296)
    (h63 : n + 1 ≤ maxLen) (hbytes : (n + 1) * 16 ≤ 140737488355328) (hbase : base ≤ w.heap.size)
    (h : ∀ v' w', w'.ownsRow base 9 1 v' (n + 1) (xs ++ [.string y]) → w.grownBy w' v.ownBlock → Tl v' w' → wpList Tryz.prog ops Q rest (a.put o.dst v') w') : wpList Tryz.prog ops Q (o :: rest) a w := by
  obtain ⟨v', w', hr, h2, h3, h4⟩ := run_append_tl w base o.type i0 hi hz0 hz1 hz2 v n xs hown ht ad c y hnews hxs h63 hbytes hbase
  exact Lib.wpList_append_run w hgd s x 27 27 ho v (.slice (some ad) 1 c) hs hx v' w' hr (h v' w' h2 h3 h4)
end Go.Proofs.YtfgcbdjkimkgpaaGreatDoor
namespace Go.Proofs.YtfgcbdjkimkgpaaGreatDoor
set_option maxRecDepth 100000
set_option linter.unusedVariables false
open Go.ChangeShapes Go.WideShapes Go.ChangeAt Go.RowKit

def addN (acc : List Str) (x : Str) : List Str := if x ∈ acc then acc else acc ++ [x]
def addAll (acc l : List Str) : List Str := l.foldl addN acc
def needStep (t : Str) (acc : List Str) (r : Rl) : List Str := if t ∈ r.1 then addAll acc r.2 else acc
/-- the needs of the rules that have the target, each at its first occurrence -/
def needsR (l : List Rl) (t : Str) : List Str := l.foldl (needStep t) []
theorem addN_mem {acc : List Str} {x y : Str} : y ∈ addN acc x ↔ y ∈ acc ∨ y = x := by
  unfold addN
  by_cases h : x ∈ acc
  · rw [if_pos h]
    exact ⟨.inl, fun k => k.elim id (fun e => e ▸ h)⟩
  · rw [if_neg h]; simp
theorem addN_len (acc : List Str) (x : Str) : (addN acc x).length ≤ acc.length + 1 := by
  unfold addN
  by_cases h : x ∈ acc
  · rw [if_pos h]; omega
  · rw [if_neg h]; simp
theorem addAll_take {acc l : List Str} {m : Nat} (h : m < l.length) : addAll acc (l.take (m + 1)) = addN (addAll acc (l.take m)) (l.getD m []) := by
  unfold addAll
  rw [List.take_add_one, List.getElem?_eq_getElem h, List.getD, List.getElem?_eq_getElem h, List.foldl_append]
  rfl
theorem addAll_mem : ∀ {l acc : List Str} {y : Str}, y ∈ addAll acc l ↔ y ∈ acc ∨ y ∈ l
  | [], acc, y => by simp [addAll]
  | x :: r, acc, y => by
    show y ∈ addAll (addN acc x) r ↔ _
    rw [addAll_mem, addN_mem, List.mem_cons]
    constructor
    · rintro ((h | h) | h)
      · exact .inl h
      · exact .inr (.inl h)
      · exact .inr (.inr h)
    · rintro (h | h | h)
      · exact .inl (.inl h)
      · exact .inl (.inr h)
      · exact .inr h
theorem addAll_len : ∀ (l acc : List Str), (addAll acc l).length ≤ acc.length + l.length
  | [], acc => by simp [addAll]
  | x :: r, acc => by
    have h1 := addAll_len r (addN acc x)
    have h2 := addN_len acc x
    show (addAll (addN acc x) r).length ≤ _
    rw [List.length_cons]
    omega
theorem needs_take {z : List Rl} {t : Str} {k : Nat} (h : k < z.length) : needsR (z.take (k + 1)) t = needStep t (needsR (z.take k) t) (tg z k, nd z k) := by
  unfold needsR
  rw [rl_take h, List.foldl_append]
  rfl
theorem needs_mem : ∀ {l : List Rl} {acc : List Str} {t y : Str}, y ∈ l.foldl (needStep t) acc ↔ y ∈ acc ∨ ∃ r ∈ l, t ∈ r.1 ∧ y ∈ r.2
  | [], acc, t, y => by simp
  | r :: l, acc, t, y => by
    rw [List.foldl_cons, needs_mem]
    unfold needStep
    by_cases h : t ∈ r.1
    · rw [if_pos h, addAll_mem]
      simp [h, or_assoc]
    · rw [if_neg h]
      simp [h]
theorem needs_spec (l : List Rl) (t y : Str) : y ∈ needsR l t ↔ ∃ r ∈ l, t ∈ r.1 ∧ y ∈ r.2 := by
  unfold needsR
  rw [needs_mem]
  simp

end Go.Proofs.YtfgcbdjkimkgpaaGreatDoor
namespace Go.Proofs.YtfgcbdjkimkgpaaGreatDoor
set_option maxRecDepth 100000
set_option linter.unusedVariables false
open Go.ChangeShapes Go.WideShapes Go.ChangeAt Go.RowKit

theorem own_base {w : World} {b1 b2 : Nat} {e : TypeId} {s n : Nat} {v : Value} {xs : List Value} (h : w.ownsRow b1 e s v n xs) (hb : b2 ≤ b1) : w.ownsRow b2 e s v n xs := by
  refine ⟨h.1, ?_⟩
  rcases h.2 with k | ⟨g, cap, cur, h1, h2, r⟩
  · exact .inl k
  · exact .inr ⟨g, cap, cur, h1, Nat.le_trans hb h2, r⟩
theorem own_type {w : World} {b1 b2 : Nat} {e1 e2 : TypeId} {s1 s2 n1 n2 : Nat} {v1 v2 : Value} {x1 x2 : List Value} (h1 : w.ownsRow b1 e1 s1 v1 n1 x1) (h2 : w.ownsRow b2 e2 s2 v2 n2 x2) (hne : e1 ≠ e2) : v1.ownBlock = none ∨ v1.ownBlock ≠ v2.ownBlock := by
  rcases h1.2 with ⟨rfl, _⟩ | ⟨g, cap, cur, rfl, _, hg, _⟩
  · exact .inl rfl
  · right
    rcases h2.2 with ⟨rfl, _⟩ | ⟨g', cap', cur', rfl, _, hg', _⟩
    · intro h; cases h
    · intro h
      have : g = g' := Option.some.inj h
      subst this
      rw [hg] at hg'
      cases hg'
      exact hne rfl

/-- two values lie in different blocks -/
def Apart (a b : Value) : Prop := ∀ k, a.ownBlock = some k → b.ownBlock ≠ some k
def rcells (c : List (Value × Value)) : List Value := c.flatMap fun p => [p.1, p.2]
theorem rcells_snoc (c : List (Value × Value)) (p q : Value) : rcells (c ++ [(p, q)]) = rcells c ++ [p, q] := by simp [rcells]
theorem rcells_mem {c : List (Value × Value)} {a : Value} : a ∈ rcells c ↔ ∃ p ∈ c, a = p.1 ∨ a = p.2 := by simp [rcells]
theorem rcells_at : ∀ (c : List (Value × Value)) (k : Nat) (p : Value × Value), c[k]? = some p → (rcells c)[k * 2]? = some p.1 ∧ (rcells c)[k * 2 + 1]? = some p.2
  | [], k, x, h => by simp at h
  | y :: t, 0, x, h => by simp at h; subst h; simp [rcells]
  | y :: t, k + 1, x, h => by
    have ih := rcells_at t k x (by simpa using h)
    have e : rcells (y :: t) = y.1 :: y.2 :: rcells t := by simp [rcells]
    rw [e, show (k + 1) * 2 = k * 2 + 1 + 1 by omega]
    simpa using ih
/-- a row of rules of the call's own, whose targets and needs lie in blocks of their own: the values are c -/
def ROb (B : Nat) (v : Value) (z : List Rl) (w : World) (c : List (Value × Value)) : Prop :=
  c.length = z.length ∧ w.ownsRow B 82 2 v z.length (rcells c) ∧ (∀ k p, c[k]? = some p → SO B p.1 (tg z k) w ∧ SO B p.2 (nd z k) w) ∧ (rcells c).Pairwise Apart
def RO (B : Nat) (v : Value) (z : List Rl) (w : World) : Prop := ∃ c : List (Value × Value), ROb B v z w c
/-- .. and every cell of their blocks is a string -/
def ROT (B : Nat) (v : Value) (z : List Rl) (w : World) : Prop := ∃ c : List (Value × Value), ROb B v z w c ∧ ∀ u ∈ rcells c, Tl u w
theorem ROT.ro {B : Nat} {v : Value} {z : List Rl} {w : World} (h : ROT B v z w) : RO B v z w := by obtain ⟨c, h, _⟩ := h; exact ⟨c, h⟩
theorem RO.nil (B : Nat) (w : World) : RO B (.slice none 0 0) [] w := ⟨[], rfl, World.ownsRow_nil _ _ _ _, fun k p h => by simp at h, List.Pairwise.nil⟩
theorem ROT.nil (B : Nat) (w : World) : ROT B (.slice none 0 0) [] w := ⟨[], ⟨rfl, World.ownsRow_nil _ _ _ _, fun k p h => by simp at h, List.Pairwise.nil⟩, fun u hu => by simp [rcells] at hu⟩
theorem ROb.later {B : Nat} {v : Value} {z : List Rl} {w w' : World} {c : List (Value × Value)} (h : ROb B v z w c) (hb : Below w.heap.size w w') : ROb B v z w' c := by
  obtain ⟨h1, h2, h3, h4⟩ := h
  exact ⟨h1, own_later h2 hb, fun k p hk => ⟨own_later (h3 k p hk).1 hb, own_later (h3 k p hk).2 hb⟩, h4⟩
theorem ROb.less {B B' : Nat} {v : Value} {z : List Rl} {w : World} {c : List (Value × Value)} (h : ROb B v z w c) (hb : B' ≤ B) : ROb B' v z w c := by
  obtain ⟨h1, h2, h3, h4⟩ := h
  exact ⟨h1, own_base h2 hb, fun k p hk => ⟨own_base (h3 k p hk).1 hb, own_base (h3 k p hk).2 hb⟩, h4⟩
theorem RO.later {B : Nat} {v : Value} {z : List Rl} {w w' : World} (h : RO B v z w) (hb : Below w.heap.size w w') : RO B v z w' := by obtain ⟨c, h⟩ := h; exact ⟨c, h.later hb⟩
theorem RO.less {B B' : Nat} {v : Value} {z : List Rl} {w : World} (h : RO B v z w) (hb : B' ≤ B) : RO B' v z w := by obtain ⟨c, h⟩ := h; exact ⟨c, h.less hb⟩
theorem ROT.less {B B' : Nat} {v : Value} {z : List Rl} {w : World} (h : ROT B v z w) (hb : B' ≤ B) : ROT B' v z w := by obtain ⟨c, h, k⟩ := h; exact ⟨c, h.less hb, k⟩
theorem tg_left {a : List Rl} {x : Rl} {k : Nat} (h : k < a.length) : tg (a ++ [x]) k = tg a k ∧ nd (a ++ [x]) k = nd a k := by
  unfold tg nd
  rw [List.getD, List.getD, List.getElem?_append_left h]
  exact ⟨rfl, rfl⟩
theorem tg_last (a : List Rl) (x : Rl) : tg (a ++ [x]) a.length = x.1 ∧ nd (a ++ [x]) a.length = x.2 := by
  unfold tg nd
  rw [List.getD, List.getElem?_append_right (Nat.le_refl _)]
  simp
theorem ro_snoc {B : Nat} {wr w4 w5 : World} {v v5 p1 p2 : Value} {out : List Rl} {c : List (Value × Value)} {t n : List Str} (hcl : c.length = out.length) (ho : wr.ownsRow B 82 2 v out.length (rcells c))
    (he : ∀ k p, c[k]? = some p → SO B p.1 (tg out k) wr ∧ SO B p.2 (nd out k) wr) (hap : (rcells c).Pairwise Apart) (hb : Below wr.heap.size wr w4) (h1 : SO wr.heap.size p1 t w4) (h2 : SO wr.heap.size p2 n w4) (ap : Apart p1 p2) (hB : B ≤ wr.heap.size)
    (g : w4.grownBy w5 v.ownBlock) (o5 : w5.ownsRow B 82 2 v5 (out.length + 1) (rcells c ++ [p1, p2])) : ROb B v5 (out ++ [(t, n)]) w5 (c ++ [(p1, p2)]) := by
  have ho4 := own_later ho hb
  have keep : ∀ {b p z}, SO b p z w4 → SO b p z w5 := fun {b p z} h => World.ownsRow.kept h g (own_type h ho4 (by decide))
  refine ⟨by simp [hcl], by rw [rcells_snoc, List.length_append]; exact o5, fun k p hk => ?_, ?_⟩
  · rcases Nat.lt_or_ge k c.length with hlt | hge
    · rw [List.getElem?_append_left hlt] at hk
      obtain ⟨e1, e2⟩ := tg_left (a := out) (x := (t, n)) (k := k) (by omega)
      rw [e1, e2]
      exact ⟨keep (own_later (he k p hk).1 hb), keep (own_later (he k p hk).2 hb)⟩
    · rw [List.getElem?_append_right hge] at hk
      have hk0 : k - c.length = 0 := by
        rcases Nat.eq_zero_or_pos (k - c.length) with h | h
        · exact h
        · rw [List.getElem?_eq_none (show 1 ≤ k - c.length from h)] at hk; cases hk
      rw [hk0] at hk
      simp at hk
      subst hk
      obtain rfl : k = out.length := by omega
      obtain ⟨e1, e2⟩ := tg_last out (t, n)
      rw [e1, e2]
      exact ⟨own_base (keep h1) hB, own_base (keep h2) hB⟩
  · rw [rcells_snoc, List.pairwise_append]
    refine ⟨hap, List.pairwise_cons.2 ⟨fun b hb' => ?_, List.pairwise_singleton _ _⟩, fun a ha b hb' => ?_⟩
    · rw [List.mem_singleton] at hb'; subst hb'; exact ap
    · obtain ⟨p, hp, hpa⟩ := rcells_mem.1 ha
      obtain ⟨k, hk, rfl⟩ := List.getElem_of_mem hp
      have hek := he k _ (List.getElem?_eq_getElem hk)
      intro q hq
      have hlt : q < wr.heap.size := by
        rcases hpa with rfl | rfl
        · exact (hek.1.lt q hq).2
        · exact (hek.2.lt q hq).2
      intro hbq
      have hge : wr.heap.size ≤ q := by
        simp at hb'
        rcases hb' with rfl | rfl
        · exact (h1.lt q hbq).1
        · exact (h2.lt q hbq).1
      omega

theorem tl_other {B : Nat} {w4 w5 : World} {u v : Value} {n : Nat} {xs : List Value} (h : Tl u w4) (ho : w4.ownsRow B 82 2 v n xs) (g : w4.grownBy w5 v.ownBlock) : Tl u w5 := by
  refine h.kept g ?_
  cases hu : u.ownBlock with
  | none => exact .inl rfl
  | some k =>
    right
    intro he
    obtain ⟨cur, h1, _⟩ := h k hu
    rcases ho.2 with ⟨rfl, _⟩ | ⟨g', cap, cur', rfl, _, hg', _⟩
    · cases he
    · have : k = g' := Option.some.inj he
      subst this
      rw [h1] at hg'
      cases hg'
theorem rot_snoc {B : Nat} {wr w4 w5 : World} {v v5 p1 p2 : Value} {out : List Rl} {c : List (Value × Value)} {t n : List Str} (hcl : c.length = out.length) (ho : wr.ownsRow B 82 2 v out.length (rcells c))
    (he : ∀ k p, c[k]? = some p → SO B p.1 (tg out k) wr ∧ SO B p.2 (nd out k) wr) (hap : (rcells c).Pairwise Apart) (hb : Below wr.heap.size wr w4) (h1 : SO wr.heap.size p1 t w4) (h2 : SO wr.heap.size p2 n w4) (ap : Apart p1 p2) (hB : B ≤ wr.heap.size)
    (g : w4.grownBy w5 v.ownBlock) (o5 : w5.ownsRow B 82 2 v5 (out.length + 1) (rcells c ++ [p1, p2])) (ht : ∀ u ∈ rcells c, Tl u wr) (t1 : Tl p1 w4) (t2 : Tl p2 w4) : ROT B v5 (out ++ [(t, n)]) w5 := by
  refine ⟨_, ro_snoc hcl ho he hap hb h1 h2 ap hB g o5, fun u hu => ?_⟩
  have ho4 := own_later ho hb
  rw [rcells_snoc] at hu
  rcases List.mem_append.1 hu with h | h
  · exact tl_other ((ht u h).later hb) ho4 g
  · simp at h
    rcases h with rfl | rfl
    · exact tl_other t1 ho4 g
    · exact tl_other t2 ho4 g

/-- the first fault of the rules -/
def firstR : List Rl → Int
  | [] => 0
  | r :: l => if chkR r = 0 then firstR l else chkR r
theorem first_snoc {l : List Rl} {r : Rl} (h : firstR l = 0) : firstR (l ++ [r]) = chkR r := by
  induction l with
  | nil => show (if chkR r = 0 then 0 else chkR r) = chkR r; split <;> simp_all
  | cons a l ih =>
    rw [firstR] at h
    rw [List.cons_append, firstR]
    by_cases ha : chkR a = 0
    · rw [if_pos ha] at h ⊢; exact ih h
    · rw [if_neg ha] at h; exact absurd h ha
theorem first_append {l r : List Rl} (h : firstR l ≠ 0) : firstR (l ++ r) = firstR l := by
  induction l with
  | nil => exact absurd rfl h
  | cons a l ih =>
    rw [firstR] at h
    rw [List.cons_append, firstR, firstR]
    by_cases ha : chkR a = 0
    · rw [if_pos ha] at h ⊢; rw [if_pos ha]; exact ih h
    · rw [if_neg ha, if_neg ha]
theorem first_ok {l : List Rl} (h : firstR l = 0) : ∀ r ∈ l, chkR r = 0 := by
  induction l with
  | nil => intro r hr; cases hr
  | cons a l ih =>
    rw [firstR] at h
    by_cases ha : chkR a = 0
    · rw [if_pos ha] at h
      intro r hr
      rcases List.mem_cons.1 hr with rfl | hr
      · exact ha
      · exact ih h r hr
    · rw [if_neg ha] at h; exact absurd h ha
theorem chk_ok {r : Rl} (h : chkR r = 0) : r.1.length ≤ 20 ∧ r.2.length ≤ 20 ∧ 0 < r.1.length ∧ r.1.all good = true ∧ r.2.all good = true := by
  unfold chkR at h
  by_cases h1 : 20 < r.1.length ∨ 20 < r.2.length
  · rw [if_pos h1] at h; cases h
  rw [if_neg h1] at h
  by_cases h2 : r.1.length = 0
  · rw [if_pos h2] at h; cases h
  rw [if_neg h2] at h
  by_cases h3 : r.1.all good = false
  · rw [if_pos h3] at h; cases h
  rw [if_neg h3] at h
  by_cases h4 : r.2.all good = false
  · rw [if_pos h4] at h; cases h
  exact ⟨by omega, by omega, by omega, by simpa using h3, by simpa using h4⟩

/-- all targets -/
def allT (l : List Rl) : List Str := l.flatMap (·.1)
def oneR (l : List Rl) (t : Str) : Rl := ([t], needsR l t)
/-- what Join answers -/
inductive JoinR (l : List Rl) : List Rl → Int → Prop
  | large : 100 < l.length → JoinR l [] 2
  | fault : l.length ≤ 100 → firstR l ≠ 0 → JoinR l [] (firstR l)
  | many : l.length ≤ 100 → firstR l = 0 → 64 < (uniq (allT l)).length → JoinR l [] 2
  | needs (t : Str) : l.length ≤ 100 → firstR l = 0 → (uniq (allT l)).length ≤ 64 → t ∈ uniq (allT l) → 64 < (needsR l t).length → JoinR l [] 2
  | ok : l.length ≤ 100 → firstR l = 0 → (uniq (allT l)).length ≤ 64 → (∀ t ∈ uniq (allT l), (needsR l t).length ≤ 64) → JoinR l ((uniq (allT l)).map (oneR l)) 0
theorem JoinR.same {l a b : List Rl} {e f : Int} (h : JoinR l a e) (k : JoinR l b f) : a = b ∧ e = f := by
  cases h <;> cases k <;> first
    | exact ⟨rfl, rfl⟩
    | omega
    | (rename_i h1 h2; exact absurd h1 (by assumption))
    | (exfalso; simp_all; done)
    | (exfalso; rename_i t _ _ _ hm hl _ _ _ ha; have := ha t hm; omega)
    | (exfalso; rename_i _ _ _ ha t _ _ _ hm hl; have := ha t hm; omega)
def JoinPost (l : List Rl) (w : World) (e : Ending) (w' : World) : Prop :=
  ∃ v z x, e = .returned (.tuple #[v, .int .i64 x]) ∧ JoinR l z x ∧ RO w.heap.size v z w' ∧ Below w.heap.size w w'
/-- .. with the blocks' other cells -/
def JoinPostT (l : List Rl) (w : World) (e : Ending) (w' : World) : Prop :=
  ∃ v z x, e = .returned (.tuple #[v, .int .i64 x]) ∧ JoinR l z x ∧ ROT w.heap.size v z w' ∧ Below w.heap.size w w'
end Go.Proofs.YtfgcbdjkimkgpaaGreatDoor
