/-
  Package file's definition, definitions, isPlain, suffixPair, inference. Condition: the strings have at most 2^32 bytes.
  Package file's isPlain, suffixPair, inference. Condition: the strings are ASCII and have at most 2^31 bytes.
  Package line's Words and package rule's Parse once more: what they hand back lies in new blocks of its own. Condition: the string is shorter than 2^32 bytes.
  What the reference's WordsOf and Split (at newlines) answer. Condition: the string is shorter than 2^32 bytes.
  Rows of strings of the call's own whose block holds strings alone, also behind the slice's end; append keeps this. No condition.
-/
import Derived.Test.YtebjofffijnihaaGreatDoorGc12Bv
import Derived.Test.YtebjofffijnihaaGreatDoorGc8LRa
import Derived.Test.YtebjofffijnihaaGreatDoorGc11MPerm
import Derived.Laws.ResultCell
import Derived.Test.YtebjofffijnihaaGreatDoorGc10NFind
import Derived.Test.YtebjofffijnihaaGreatDoorGc7LJn
namespace Go.Proofs.YtebjofffijnihaaGreatDoor
set_option maxRecDepth 100000
set_option linter.unusedVariables false
open Go.ChangeShapes Go.WideShapes Go.ChangeAt Go.RowKit

theorem idx_contains : ∀ (x : Str) (c : UInt8), decide (0 ≤ Lib.indexByte x c) = x.contains c
  | [], c => rfl
  | d :: r, c => by
    have ih := idx_contains r c
    rw [Lib.indexByte, List.contains_cons, ← ih]
    by_cases h : d = c
    · subst h; simp
    · have e1 : (c == d) = false := by simpa using fun e => h e.symm
      have e2 : (d == c) = false := by simpa using h
      rw [e1]
      by_cases h2 : Lib.indexByte r c = -1
      · rw [h2]; simp [e2]
      · have e3 : (Lib.indexByte r c == -1) = false := by simpa using h2
        have e4 := Lib.indexByte_ge r c
        rw [Bool.false_or, Bool.eq_iff_iff, decide_eq_true_iff, decide_eq_true_iff]
        simp [e2, e3]
        omega
theorem trim_has {c : UInt8} (hb : bl c = false) (x : Str) : (triml (trimr x)).contains c = x.contains c := by
  obtain ⟨t, h1, h2⟩ := trimr_tail x
  obtain ⟨p, h3, h4⟩ := triml_split (trimr x)
  rw [Bool.eq_iff_iff, List.contains_iff_mem, List.contains_iff_mem]
  constructor
  · intro h
    rw [h1, h3]
    simp [h]
  · intro h
    rw [h1] at h
    rcases List.mem_append.1 h with h | h
    · rw [h3] at h
      rcases List.mem_append.1 h with h | h
      · have := h4 c h; rw [hb] at this; cases this
      · exact h
    · have := h2 c h; rw [hb] at this; cases this
def dN (s : Str) : Str := ((defR s).getD ([], [])).1
def dV (s : Str) : Str := ((defR s).getD ([], [])).2
set_option maxHeartbeats 4000000 in
theorem def_any (s : Str) (w : World) (hs : s.length ≤ 4294967296) :
    Calls Tryz.prog 69 #[.string (bs s)] w fun e w' => e = .returned (.tuple #[.agg #[.string (bs (dN s)), .string (bs (dV s))], .bool (defR s).isSome]) ∧ Below w.heap.size w w' := by
  have S0 := Lib.hid (blk_new w #[.string (bs []), .string (bs [])] 109)
  have B0 : Hid (Below w.heap.size w (w.alloc (.cells #[.string (bs []), .string (bs [])] 109))) := (Below.refl _ _).alloc (Nat.le_refl _) _
  cases hc : cutB 61 s with
  | none =>
    have D : defR s = none := by unfold defR; rw [hc]
    have SP : Hid (∀ W, Calls Tryz.prog 89 #[.string (bs s), .int .u8 61] W fun e w' => e = .returned (.tuple #[.string (bs s), .string (ByteArray.mk #[]), .bool false]) ∧ w' = W) := fun W => split_no (bs s) 61 W (fun j hj => cutB_none hc j (by rw [bs_size] at hj; exact hj))
    have E1 : Hid (dN s = []) := by show _ = _; unfold dN; rw [D]; rfl
    have E2 : Hid (dV s = []) := by show _ = _; unfold dV; rw [D]; rfl
    have E3 : Hid ((defR s).isSome = false) := by show _ = _; rw [D]; rfl
    rw [E1.out, E2.out, E3.out]
    clear hc D
    obtain ⟨c0, c1⟩ := show _ ∧ _ from ⟨S0.out.cell (i := 0) rfl, S0.out.cell (i := 1) rfl⟩
    go_enter Tryz.func69, Tryz.ntmps69
    go_wp2_with fail
    refine (SP.out _).mono ?_
    rintro e w' ⟨rfl, rfl⟩
    go_wp2
    (try simp only [Exit.inBlock, Exit.then])
    refine bodyPost_ret (v := .tuple #[.agg #[.string (bs []), .string (bs [])], .bool false]) ?_ rfl ⟨rfl, ?_⟩
    · rw [results_cell_tmp rfl]; go_simp; rfl
    · exact B0.out
  | some p =>
    obtain ⟨h1, h2, h3, h4, h5, h6⟩ := cutB_some hc
    have SP : Hid (∀ W, Calls Tryz.prog 89 #[.string (bs s), .int .u8 61] W fun e w' => e = .returned (.tuple #[.string (bs (triml (trimr p.1))), .string (bs (triml (trimr p.2))), .bool true]) ∧ Below W.heap.size W w') := fun W => by
      have := split_at (bs s) 61 p.1.length W (by rw [bs_size]; omega) (by rw [bs_size]; exact h1) h2 h3
      rw [bs_list, h4, h5] at this
      exact this
    have CT : Hid (∀ W, Calls Tryz.prog 90 #[.string (bs (triml (trimr p.1))), .string (ByteArray.mk #[58])] W fun e w' => e = .returned (.bool (p.1.contains 58)) ∧ w' = W) := fun W => by
      have := Tryz.strings_Contains_one (bs (triml (trimr p.1))) 58 W
      rw [bs_list, idx_contains, trim_has (by decide)] at this
      exact this
    have DD : defR s = if p.1.contains 58 then none else some (triml (trimr p.1), triml (trimr p.2)) := by unfold defR; rw [hc]
    generalize hy1 : triml (trimr p.1) = y1 at *
    generalize hy2 : triml (trimr p.2) = y2 at *
    cases hq : p.1.contains 58 with
    | true =>
      rw [hq] at CT DD
      have D : defR s = none := DD
      have E1 : Hid (dN s = []) := by show _ = _; unfold dN; rw [D]; rfl
      have E2 : Hid (dV s = []) := by show _ = _; unfold dV; rw [D]; rfl
      have E3 : Hid ((defR s).isSome = false) := by show _ = _; rw [D]; rfl
      rw [E1.out, E2.out, E3.out]
      clear hc D DD hy1 hy2 hq h1 h2 h3 h4 h5 h6 hs
      go_enter Tryz.func69, Tryz.ntmps69
      go_wp2_with fail
      refine (SP.out _).mono ?_
      rintro e w1 ⟨rfl, b1⟩
      have S1 := Lib.hid (S0.out.later b1)
      have B1 := Lib.hid (B0.out.trans (b1.mono (by simp)))
      clear b1
      go_wp2_with fail
      refine (CT.out _).mono ?_
      rintro e w2 ⟨rfl, rfl⟩
      obtain ⟨c0, c1⟩ := show _ ∧ _ from ⟨S1.out.cell (i := 0) rfl, S1.out.cell (i := 1) rfl⟩
      obtain ⟨f0, f1⟩ := show _ ∧ _ from ⟨S1.out.free 0, S1.out.free 1⟩
      go_wp2
      (try simp only [Exit.inBlock, Exit.then])
      refine bodyPost_ret (v := .tuple #[.agg #[.string (bs []), .string (bs [])], .bool false]) ?_ rfl ⟨rfl, ?_⟩
      · rw [results_cell_tmp rfl]; go_simp; rfl
      · exact (B1.out.setCell (Nat.le_refl _) _).setCell (Nat.le_refl _) _
    | false =>
      rw [hq] at CT DD
      have D : defR s = some (y1, y2) := DD
      have E1 : Hid (dN s = y1) := by show _ = _; unfold dN; rw [D]; rfl
      have E2 : Hid (dV s = y2) := by show _ = _; unfold dV; rw [D]; rfl
      have E3 : Hid ((defR s).isSome = true) := by show _ = _; rw [D]; rfl
      rw [E1.out, E2.out, E3.out]
      clear hc D DD hy1 hy2 hq h1 h2 h3 h4 h5 h6 hs
      go_enter Tryz.func69, Tryz.ntmps69
      go_wp2_with fail
      refine (SP.out _).mono ?_
      rintro e w1 ⟨rfl, b1⟩
      have S1 := Lib.hid (S0.out.later b1)
      have B1 := Lib.hid (B0.out.trans (b1.mono (by simp)))
      clear b1
      go_wp2_with fail
      refine (CT.out _).mono ?_
      rintro e w2 ⟨rfl, rfl⟩
      obtain ⟨c0, c1⟩ := show _ ∧ _ from ⟨S1.out.cell (i := 0) rfl, S1.out.cell (i := 1) rfl⟩
      obtain ⟨f0, f1⟩ := show _ ∧ _ from ⟨S1.out.free 0, S1.out.free 1⟩
      go_wp2
      (try simp only [Exit.inBlock, Exit.then])
      refine bodyPost_ret (v := .tuple #[.agg #[.string (bs y1), .string (bs y2)], .bool true]) ?_ rfl ⟨rfl, ?_⟩
      · rw [results_cell_tmp rfl]; go_simp
      · exact (B1.out.setCell (Nat.le_refl _) _).setCell (Nat.le_refl _) _

/-! definitions -/
theorem defs_step {l : List Str} {k : Nat} (h : k < l.length) : defsR (l.take (k + 1)) = if (defR (l.getD k [])).isSome then defsR (l.take k) ++ [(dN (l.getD k []), dV (l.getD k []))] else defsR (l.take k) := by
  have e : l[k]? = some (l.getD k []) := by rw [List.getD, List.getElem?_eq_getElem h]; rfl
  unfold defsR dN dV
  rw [List.take_add_one, e, List.filterMap_append]
  generalize l.getD k [] = x
  cases hd : defR x with
  | none => simp [hd]
  | some m => simp [hd]
theorem defs_len (l : List Str) : (defsR l).length ≤ l.length := List.length_filterMap_le _ _
set_option maxHeartbeats 4000000 in
theorem defs_any (l : List Str) (v : Value) (w : World) (h : SIn w v l) (hx : ∀ x ∈ l, x.length ≤ 4294967296) (hl : l.length ≤ 4294967296) :
    Calls Tryz.prog 67 #[v] w fun e w' => ∃ u, e = .returned u ∧ MO w.heap.size u (defsR l) w' ∧ Below w.heap.size w w' := by
  obtain ⟨i0, hi, hz0, hz1, hz2⟩ := info_parts infoMc
  have IH := Lib.hid hi
  rcases h.open with ⟨rfl, a, cap, rfl⟩ | ⟨hp, b, off, cap, rfl, hcap, hlt, hc⟩
  · clear h hx hl hi
    go_enter Tryz.func67, Tryz.ntmps67
    go_wp2_with fail
    go_rounds 1
    go_ret
    exact ⟨_, rfl, World.ownsRow_nil _ _ _ _, Below.refl _ _⟩
  · have HC : Hid (∀ W, Below w.heap.size w W → ∀ k, k < l.length → W.cell? ⟨b, off + k, none⟩ = some (.string (bs (l.getD k [])))) := fun W hW k hk => cell_later hW (hc k hk)
    have HS : Hid (∀ k, k < l.length → defsR (l.take (k + 1)) = if (defR (l.getD k [])).isSome then defsR (l.take k) ++ [(dN (l.getD k []), dV (l.getD k []))] else defsR (l.take k)) := fun k hk => defs_step hk
    have HX : Hid (∀ k, k < l.length → (l.getD k []).length ≤ 4294967296) := fun k hk => hx _ (getD_mem hk)
    have HL : Hid (∀ k, (defsR (l.take k)).length ≤ k) := fun k => Nat.le_trans (defs_len _) (List.length_take_le _ _)
    have TL := Lib.hid (List.take_length (l := l))
    clear h hx hc hlt hi
    generalize (fun k => l.getD k []) = g at *
    go_enter Tryz.func67, Tryz.ntmps67
    go_wp2_with fail
    go_loopw [3, 10] (fun s i wr => ∃ k : Nat, k ≤ l.length ∧ i = .int .i64 (k : Int) ∧ MO w.heap.size s (defsR (l.take k)) wr ∧ Below w.heap.size w wr) (fun _ i _ => l.length - (intOf i).toNat)
    case atStart => exact ⟨0, Nat.zero_le _, rfl, World.ownsRow_nil _ _ _ _, Below.refl _ _⟩
    case round =>
      obtain ⟨k, hk, rfl, q1, q2⟩ := hrel
      have Q1 := Lib.hid q1; have Q2 := Lib.hid q2; clear q1 q2
      by_cases hk2 : k < l.length
      · have c1 := HC.out wr Q2.out k hk2
        have X1 := Lib.hid (HX.out k hk2)
        have S1 := Lib.hid (HS.out k hk2)
        generalize l.getD k [] = x at *
        go_wp2_with fail
        refine (def_any x _ X1.out).mono ?_
        rintro e w1 ⟨rfl, b1⟩
        have B1 : Hid (Below w.heap.size w w1) := Q2.out.trans (b1.mono Q2.out.size)
        have O1 : Hid (MO w.heap.size u3 (defsR (l.take k)) w1) := own_later Q1.out b1
        clear b1
        generalize dN x = xa at *
        generalize dV x = xb at *
        have T1 := Lib.hid (blk_new w1 #[.string (bs xa), .string (bs xb)] 109)
        obtain ⟨d0, d1⟩ := show _ ∧ _ from ⟨T1.out.cell (i := 0) rfl, T1.out.cell (i := 1) rfl⟩
        have BA : Hid (Below w.heap.size w (w1.alloc (.cells #[.string (bs xa), .string (bs xb)] 109))) := B1.out.alloc B1.out.size _
        cases hq : (defR x).isSome
        · rw [hq] at S1
          clear hq
          go_wp2
          go_roundw
          case rel => exact ⟨k + 1, by omega, by go_num, by rw [S1.out]; exact O1.out.alloc _, BA.out⟩
          case measure => simp [intOf]; omega
        · rw [hq] at S1
          clear hq
          have TN : Hid (∀ j u, [Value.string (bs xa), Value.string (bs xb)][j]? = some u → ((w1.alloc (.cells #[.string (bs xa), .string (bs xb)] 109)).alloc (.cells #[.string (bs xa), .string (bs xb)] 109)).cell? ((⟨w1.heap.size + 1, 0, none⟩ : Addr).add j) = some u) := fun j u hj => by
            have := two_new (w1.alloc (.cells #[.string (bs xa), .string (bs xb)] 109)) (.string (bs xa)) (.string (bs xb)) 109 j u hj
            rw [show (w1.alloc (.cells #[.string (bs xa), .string (bs xb)] 109)).heap.size = w1.heap.size + 1 by simp] at this
            exact this
          have OA : Hid (∀ o, ((w1.alloc (.cells #[.string (bs xa), .string (bs xb)] 109)).alloc o).ownsRow w.heap.size 109 2 u3 (defsR (l.take k)).length (mcCells (defsR (l.take k)))) := fun o => World.ownsRow.alloc (World.ownsRow.alloc O1.out _) o
          have SA : Hid (∀ o, w.heap.size ≤ ((w1.alloc (.cells #[.string (bs xa), .string (bs xb)] 109)).alloc o).heap.size) := fun o => by have := B1.out.size; simp; omega
          have BB : Hid (∀ o, Below w.heap.size w ((w1.alloc (.cells #[.string (bs xa), .string (bs xb)] 109)).alloc o)) := fun o => BA.out.alloc BA.out.size o
          have LV : Hid (∀ j, u3.ownBlock = some j → w.heap.size ≤ j) := fun j hj => (O1.out.lt j hj).1
          have ll := HL.out k
          go_wp2_with (at_builtin; go_must (refine wpList_append_own _ rfl (.tmp 20) (.tmp 22) 22 rfl w.heap.size 109 i0 (.agg #[.string ByteArray.empty, .string ByteArray.empty]) 2 32 Tryz.underlying22 IH.out hz0 hz1 hz2 rfl (by decide) _ _ _ rfl (OA.out _) ⟨w1.heap.size + 1, 0, none⟩ 1 1 [.string (bs xa), .string (bs xb)] rfl rfl TN.out (by intro u hu; simp at hu; rcases hu with rfl | rfl <;> rfl) (by unfold maxLen; omega) (by omega) (SA.out _) ?_; intro v5 w5 q1 q2 q3; have O5 := Lib.hid q1; have G5 := Lib.hid q2; clear q1 q2 q3))
          go_roundw
          case rel => exact ⟨k + 1, by omega, by go_num, by rw [S1.out, if_pos trivial]; exact MO.snoc O5.out, (BB.out _).grown G5.out (SA.out _) LV.out⟩
          case measure => simp [intOf]; omega
      · obtain rfl : k = l.length := by omega
        go_wp2
        go_ret
        have q := Q1.out
        rw [TL.out] at q
        exact ⟨_, rfl, q, Q2.out⟩
end Go.Proofs.YtebjofffijnihaaGreatDoor
namespace Go.Proofs.YtebjofffijnihaaGreatDoor
set_option maxRecDepth 100000
set_option linter.unusedVariables false
open Go.ChangeShapes Go.WideShapes Go.ChangeAt Go.RowKit

theorem any_two : ∀ (x : Str) (a b : UInt8), Lib.containsAny x [a, b] = (x.contains a || x.contains b) := by
  intro x a b
  unfold Lib.containsAny
  induction x with
  | nil => rfl
  | cons c r ih =>
    have hg := Lib.indexAny_ge [a, b] r
    have d1 : (c :: r).contains a = (a == c || r.contains a) := List.contains_cons
    have d2 : (c :: r).contains b = (b == c || r.contains b) := List.contains_cons
    rw [Lib.indexAny, d1, d2]
    by_cases ha : c = a
    · subst ha; simp
    · by_cases hb : c = b
      · subst hb; simp
      · have e1 : (a == c) = false := by simpa using fun e => ha e.symm
        have e2 : (b == c) = false := by simpa using fun e => hb e.symm
        rw [e1, e2, Bool.false_or, Bool.false_or, ← ih]
        by_cases h2 : Lib.indexAny r [a, b] = -1
        · rw [h2]; simp [ha, hb]
        · have e4 : (Lib.indexAny r [a, b] == -1) = false := by simpa using h2
          rw [Bool.eq_iff_iff, decide_eq_true_iff, decide_eq_true_iff]
          simp [ha, hb, e4]
          omega
def asc (x : Str) : Prop := ∀ c ∈ x, c.toNat < 128
theorem isPlain_any (x : Str) (w : World) (hx : x.length ≤ 2147483648) (ha : asc x) :
    Calls Tryz.prog 156 #[.string (bs x)] w fun e w' => e = .returned (.bool (plainS x)) ∧ Below w.heap.size w w' := by
  by_cases h0 : x = []
  · have z : (bs x).toList.isEmpty = true := by rw [h0]; exact bs_none
    have e : plainS x = false := by rw [h0]; rfl
    rw [e]
    clear h0 e ha hx
    go_enter Tryz.func156, Tryz.ntmps156
    go_wp2
    go_ret
    exact ⟨rfl, Below.refl _ _⟩
  · have z : (bs x).toList.isEmpty = false := bs_some h0
    have CA := Lib.hid (Tryz.strings_ContainsAny_laid (bs x) ⟨#[46, 47]⟩ w (by rw [bs_size]; omega) (by decide) (fun j b hb => ha b (List.mem_of_getElem? hb)) (fun j b hb => by
      have := List.mem_of_getElem? hb
      have key : ∀ b ∈ [(46 : UInt8), 47], b.toNat < 128 := by decide
      exact key b this))
    rw [bs_list, any_two] at CA
    have e : plainS x = !(x.contains 46 || x.contains 47) := by
      unfold plainS
      have : x.isEmpty = false := by cases x with
        | nil => exact absurd rfl h0
        | cons _ _ => rfl
      rw [this, Bool.not_or]; rfl
    have E := Lib.hid e
    clear h0 e ha hx
    go_enter Tryz.func156, Tryz.ntmps156
    go_wp2_with fail
    refine CA.out.mono ?_
    rintro e w1 ⟨rfl, hb⟩
    have B := Lib.hid hb
    generalize (x.contains 46 || x.contains 47) = q at *
    clear hb CA
    go_wp2
    go_ret
    exact ⟨by rw [E.out]; rfl, B.out⟩
def pF (s : Str) : Str := ((pairR s).getD ([], [])).1
def pT (s : Str) : Str := ((pairR s).getD ([], [])).2
theorem pairR_cons (r : Str) : pairR (46 :: r) = match cutB 46 r with
    | none => none
    | some p => if plainS p.1 && plainS p.2 then some (46 :: p.1, 46 :: p.2) else none := rfl
theorem pairR_no {s : Str} (h : [46].isPrefixOf s = false) : pairR s = none := by
  cases s with
  | nil => rfl
  | cons c r =>
    have hc : c ≠ 46 := by rintro rfl; simp [List.isPrefixOf] at h
    unfold pairR; simp only []; rw [if_neg hc]
set_option maxHeartbeats 8000000 in
theorem pair_any (s : Str) (w : World) (hs : s.length ≤ 2147483648) (ha : asc s) :
    Calls Tryz.prog 121 #[.string (bs s)] w fun e w' => e = .returned (.tuple #[.agg #[.string (bs (pF s)), .string (bs (pT s))], .bool (pairR s).isSome]) ∧ Below w.heap.size w w' := by
  have S0 := Lib.hid (blk_new w #[.string (bs []), .string (bs [])] 96)
  have B0 : Hid (Below w.heap.size w (w.alloc (.cells #[.string (bs []), .string (bs [])] 96))) := (Below.refl _ _).alloc (Nat.le_refl _) _
  have NO : Hid (pairR s = none → pF s = [] ∧ pT s = [] ∧ (pairR s).isSome = false) := fun h => by unfold pF pT; rw [h]; exact ⟨rfl, rfl, rfl⟩
  have YES : Hid (∀ a b, pairR s = some (a, b) → pF s = a ∧ pT s = b ∧ (pairR s).isSome = true) := fun a b h => by unfold pF pT; rw [h]; exact ⟨rfl, rfl, rfl⟩
  have SL := Lib.hid hs; have AS := Lib.hid ha
  clear hs ha
  go_enter Tryz.func121, Tryz.ntmps121
  go_wp2_with fail
  refine (pre_any s 46 _).mono ?_
  rintro e w1 ⟨rfl, (⟨h1, rfl⟩ | ⟨r, rfl, rfl⟩)⟩
  · obtain ⟨e1, e2, e3⟩ := NO.out (pairR_no h1)
    have E1 := Lib.hid e1; have E2 := Lib.hid e2; have E3 := Lib.hid e3
    have XL : Hid (s.length ≤ 9223372036854775807) := by have := SL.out; show _ ≤ _; omega
    clear h1 e1 e2 e3 NO YES
    go_wp2_with fail
    refine (mcut_any s 46 _ XL.out).mono ?_
    rintro e w2 ⟨hb, he⟩
    have S2 := Lib.hid (S0.out.later hb)
    have B2 := Lib.hid (B0.out.trans (hb.mono B0.out.size))
    obtain ⟨u1, u2, u3, rfl⟩ : ∃ u1 u2 u3, e = .returned (.tuple #[.string u1, .string u2, .bool u3]) := by
      rcases he with ⟨_, rfl⟩ | ⟨a, b, _, _, rfl⟩
      · exact ⟨_, _, _, rfl⟩
      · exact ⟨_, _, _, rfl⟩
    clear hb he
    obtain ⟨c0, c1⟩ := show _ ∧ _ from ⟨S2.out.cell (i := 0) rfl, S2.out.cell (i := 1) rfl⟩
    obtain ⟨f0, f1⟩ := show _ ∧ _ from ⟨S2.out.free 0, S2.out.free 1⟩
    go_wp2
    (try simp only [Exit.inBlock, Exit.then])
    refine bodyPost_ret (v := .tuple #[.agg #[.string (bs []), .string (bs [])], .bool false]) ?_ rfl ⟨by rw [E1.out, E2.out, E3.out], ?_⟩
    · rw [results_cell_tmp rfl]; go_simp; try rfl
    · exact (B2.out.setCell (Nat.le_refl _) _).setCell (Nat.le_refl _) _
  · have RL : Hid (r.length ≤ 2147483648) := by have := SL.out; rw [List.length_cons] at this; show _ ≤ _; omega
    have AR : Hid (asc r) := fun c hc => AS.out c (List.mem_cons_of_mem _ hc)
    have XL : Hid (r.length ≤ 9223372036854775807) := by have := RL.out; show _ ≤ _; omega
    have PC := Lib.hid (pairR_cons r)
    clear SL AS
    go_wp2_with fail
    refine (mcut_any r 46 _ XL.out).mono ?_
    rintro e w2 ⟨hb, (⟨h2, rfl⟩ | ⟨a, b, rfl, h2, rfl⟩)⟩
    · have S2 := Lib.hid (S0.out.later hb)
      have B2 := Lib.hid (B0.out.trans (hb.mono B0.out.size))
      obtain ⟨e1, e2, e3⟩ := NO.out (by rw [PC.out, cutB_no r h2])
      have E1 := Lib.hid e1; have E2 := Lib.hid e2; have E3 := Lib.hid e3
      clear hb h2 e1 e2 e3 NO YES PC
      obtain ⟨c0, c1⟩ := show _ ∧ _ from ⟨S2.out.cell (i := 0) rfl, S2.out.cell (i := 1) rfl⟩
      obtain ⟨f0, f1⟩ := show _ ∧ _ from ⟨S2.out.free 0, S2.out.free 1⟩
      go_wp2
      (try simp only [Exit.inBlock, Exit.then])
      refine bodyPost_ret (v := .tuple #[.agg #[.string (bs []), .string (bs [])], .bool false]) ?_ rfl ⟨by rw [E1.out, E2.out, E3.out], ?_⟩
      · rw [results_cell_tmp rfl]; go_simp; try rfl
      · exact (B2.out.setCell (Nat.le_refl _) _).setCell (Nat.le_refl _) _
    · have S2 := Lib.hid (S0.out.later hb)
      have B2 := Lib.hid (B0.out.trans (hb.mono B0.out.size))
      have PC2 : Hid (pairR (46 :: (a ++ 46 :: b)) = if plainS a && plainS b then some (46 :: a, 46 :: b) else none) := by show _ = _; rw [PC.out, cutB_mk a b h2]
      have LA : Hid (a.length ≤ 2147483648 ∧ b.length ≤ 2147483648) := by have := RL.out; rw [List.length_append, List.length_cons] at this; exact ⟨by omega, by omega⟩
      have AA : Hid (asc a ∧ asc b) := ⟨fun c hc => AR.out c (by simp [hc]), fun c hc => AR.out c (by simp [hc])⟩
      clear hb h2 PC RL AR XL
      go_wp2_with fail
      refine (isPlain_any a _ LA.out.1 AA.out.1).mono ?_
      rintro e w3 ⟨rfl, hb⟩
      have S3 := Lib.hid (S2.out.later hb)
      have B3 := Lib.hid (B2.out.trans (hb.mono B2.out.size))
      clear hb
      cases hpa : plainS a
      · obtain ⟨e1, e2, e3⟩ := NO.out (by rw [PC2.out, hpa]; rfl)
        have E1 := Lib.hid e1; have E2 := Lib.hid e2; have E3 := Lib.hid e3
        clear hpa e1 e2 e3 NO YES PC2
        obtain ⟨c0, c1⟩ := show _ ∧ _ from ⟨S3.out.cell (i := 0) rfl, S3.out.cell (i := 1) rfl⟩
        obtain ⟨f0, f1⟩ := show _ ∧ _ from ⟨S3.out.free 0, S3.out.free 1⟩
        go_wp2
        (try simp only [Exit.inBlock, Exit.then])
        refine bodyPost_ret (v := .tuple #[.agg #[.string (bs []), .string (bs [])], .bool false]) ?_ rfl ⟨by rw [E1.out, E2.out, E3.out], ?_⟩
        · rw [results_cell_tmp rfl]; go_simp; try rfl
        · exact (B3.out.setCell (Nat.le_refl _) _).setCell (Nat.le_refl _) _
      · have PC3 : Hid (pairR (46 :: (a ++ 46 :: b)) = if plainS b then some (46 :: a, 46 :: b) else none) := by show _ = _; rw [PC2.out, hpa, Bool.true_and]
        clear hpa PC2
        go_wp2_with fail
        refine (isPlain_any b _ LA.out.2 AA.out.2).mono ?_
        rintro e w4 ⟨rfl, hb⟩
        have S4 := Lib.hid (S3.out.later hb)
        have B4 := Lib.hid (B3.out.trans (hb.mono B3.out.size))
        clear hb
        obtain ⟨c0, c1⟩ := show _ ∧ _ from ⟨S4.out.cell (i := 0) rfl, S4.out.cell (i := 1) rfl⟩
        obtain ⟨f0, f1⟩ := show _ ∧ _ from ⟨S4.out.free 0, S4.out.free 1⟩
        cases hpb : plainS b
        · obtain ⟨e1, e2, e3⟩ := NO.out (by rw [PC3.out, hpb]; rfl)
          have E1 := Lib.hid e1; have E2 := Lib.hid e2; have E3 := Lib.hid e3
          clear hpb e1 e2 e3 NO YES PC3
          go_wp2
          (try simp only [Exit.inBlock, Exit.then])
          refine bodyPost_ret (v := .tuple #[.agg #[.string (bs []), .string (bs [])], .bool false]) ?_ rfl ⟨by rw [E1.out, E2.out, E3.out], ?_⟩
          · rw [results_cell_tmp rfl]; go_simp; try rfl
          · exact (B4.out.setCell (Nat.le_refl _) _).setCell (Nat.le_refl _) _
        · obtain ⟨e1, e2, e3⟩ := YES.out (46 :: a) (46 :: b) (by rw [PC3.out, hpb]; rfl)
          have E1 := Lib.hid e1; have E2 := Lib.hid e2; have E3 := Lib.hid e3
          have k1 : ByteArray.mk #[46] ++ bs a = bs (46 :: a) := by rw [show ByteArray.mk #[46] = bs [46] from rfl, bs_append]; rfl
          have k2 : ByteArray.mk #[46] ++ bs b = bs (46 :: b) := by rw [show ByteArray.mk #[46] = bs [46] from rfl, bs_append]; rfl
          have s0 : (ByteArray.mk #[46]).size = 1 := rfl
          have s1 := bs_size a
          have s2 := bs_size b
          obtain ⟨la, lb⟩ := LA.out
          clear hpb e1 e2 e3 NO YES PC3
          generalize hA : bs (46 :: a) = A at *
          generalize hC : bs (46 :: b) = C at *
          have HA := Lib.hid hA; have HC := Lib.hid hC
          clear hA hC
          go_wp2
          (try simp only [Exit.inBlock, Exit.then])
          refine bodyPost_ret (v := .tuple #[.agg #[.string A, .string C], .bool true]) ?_ rfl ⟨by rw [E1.out, E2.out, E3.out, HA.out, HC.out], ?_⟩
          · rw [results_cell_tmp rfl]; go_simp; try rfl
          · exact (B4.out.setCell (Nat.le_refl _) _).setCell (Nat.le_refl _) _
end Go.Proofs.YtebjofffijnihaaGreatDoor
namespace Go.Proofs.YtebjofffijnihaaGreatDoor
set_option maxRecDepth 100000
set_option linter.unusedVariables false
open Go.ChangeShapes Go.WideShapes Go.ChangeAt Go.RowKit

theorem fields_own (S : ByteArray) (w : World) (hs : S.size ≤ 4294967296) :
    Calls Tryz.prog 153 #[.string S, .func (.func 154) #[] #[]] w fun e w' => ∃ v, e = .returned v ∧ SO w.heap.size v (words S.data.toList) w' ∧ Below w.heap.size w w' := by
  have hp : PredAtRunes Tryz.prog 154 #[] blR w := fun W x _ _ => (pred_any x W).mono fun e w' ⟨h1, h2⟩ => ⟨h1, 0, h2⟩
  refine (Tryz.strings_FieldsFunc_runes 154 #[] (enters_of Tryz.func154 (by kernel_rfl) rfl) blR S w hs hp).mono ?_
  rintro e w' ⟨a, rfl, _, h2, h3⟩
  have hl : (Lib.goFieldsP blR S).length = (words S.data.toList).length := by rw [← fields_words, List.length_map]
  have hv : (Lib.goFieldsP blR S).map Value.string = (words S.data.toList).map encStr := by
    rw [← fields_words, List.map_map]
    apply List.map_congr_left
    intro x _
    rw [Function.comp, encStr_bs, bs_of]
  rw [hv, hl] at h2
  rw [hl]
  exact ⟨_, rfl, h2, h3⟩
theorem words_own (S : ByteArray) (w : World) (hs : S.size ≤ 4294967296) :
    Calls Tryz.prog 119 #[.string S] w fun e w' => ∃ v, e = .returned v ∧ SO w.heap.size v (words S.data.toList) w' ∧ Below w.heap.size w w' := by
  have HC := Lib.hid (fields_own S w hs)
  go_enter Tryz.func119, Tryz.ntmps119
  go_wp2_with fail
  refine HC.out.mono ?_
  rintro e w' ⟨v, rfl, h1, h2⟩
  have H1 := Lib.hid h1; have H2 := Lib.hid h2; clear h1 h2
  go_wp2
  go_ret
  exact ⟨_, rfl, H1.out, H2.out⟩
theorem so_base {w : World} {b1 b2 : Nat} {v : Value} {z : List Str} (h : SO b1 v z w) (hb : b2 ≤ b1) : SO b2 v z w := by
  refine ⟨h.1, ?_⟩
  rcases h.2 with k | ⟨g, cap, cur, h1, h2, r⟩
  · exact .inl k
  · exact .inr ⟨g, cap, cur, h1, Nat.le_trans hb h2, r⟩
/-- what Parse hands back -/
def ParseOwn (s : Str) (w : World) (e : Ending) (w' : World) : Prop :=
  ∃ vt vn, e = .returned (.tuple #[.agg #[vt, vn], .int .i64 (parseR s).2]) ∧ SO w.heap.size vt (parseR s).1.1 w' ∧ SO w.heap.size vn (parseR s).1.2 w' ∧ (∀ k, vt.ownBlock = some k → vn.ownBlock ≠ some k) ∧ Below w.heap.size w w'
set_option maxHeartbeats 4000000 in
theorem parseO_some (S : ByteArray) (w : World) (hs : S.size ≤ 4294967296) (p : Str × Str) (h : colon S.data.toList = some p) :
    Calls Tryz.prog 92 #[.string S] w (ParseOwn S.data.toList w) := by
  obtain ⟨h1, h2, h3, h4, h5⟩ := colon_some h
  rw [size_list] at h1
  have l1 : p.1.length ≤ 4294967296 := by omega
  have l2 : p.2.length ≤ 4294967296 := by rw [← h5, List.length_drop, size_list]; omega
  have SP : Hid (∀ W, Calls Tryz.prog 89 #[.string S, .int .u8 58] W fun e w' => e = .returned (.tuple #[.string (bs (triml (trimr p.1))), .string (bs (triml (trimr p.2))), .bool true]) ∧ Below W.heap.size W w') := fun W => by
    have := split_at S 58 p.1.length W (by omega) h1 h2 h3
    rw [h4, h5] at this
    exact this
  have WD : Hid (∀ (x : Str) W, x.length ≤ 4294967296 → Calls Tryz.prog 119 #[.string (bs (triml (trimr x)))] W fun e w' => ∃ v, e = .returned v ∧ SO W.heap.size v (words x) w' ∧ Below W.heap.size W w') := fun x W hx => by
    have := words_own (bs (triml (trimr x))) W (by rw [bs_size]; have := triml_le (trimr x); have := trimr_le x; omega)
    rw [bs_list, words_trim] at this
    exact this
  have WD1 : Hid (∀ W, Calls Tryz.prog 119 #[.string (bs (triml (trimr p.1)))] W fun e w' => ∃ v, e = .returned v ∧ SO W.heap.size v (words p.1) w' ∧ Below W.heap.size W w') := fun W => WD.out p.1 W l1
  have WD2 : Hid (∀ W, Calls Tryz.prog 119 #[.string (bs (triml (trimr p.2)))] W fun e w' => ∃ v, e = .returned v ∧ SO W.heap.size v (words p.2) w' ∧ Below W.heap.size W w') := fun W => WD.out p.2 W l2
  have SM1 := Lib.hid (words_small p.1 l1)
  have SM2 := Lib.hid (words_small p.2 l2)
  have OK : Hid (chkR (words p.1, words p.2) = 0 → parseR S.data.toList = ((words p.1, words p.2), 0)) := fun k => parseR_ok h k
  have BAD : Hid (chkR (words p.1, words p.2) ≠ 0 → parseR S.data.toList = (([], []), chkR (words p.1, words p.2))) := fun k => parseR_bad h k
  unfold ParseOwn
  clear WD h h1 h2 h3 h4 h5 l1 l2 hs
  generalize parseR S.data.toList = R at *
  generalize bs (triml (trimr p.1)) = y1 at *
  generalize bs (triml (trimr p.2)) = y2 at *
  generalize words p.1 = t at *
  generalize words p.2 = n at *
  have S0 := Lib.hid (stayR_new w (.slice none 0 0) (.slice none 0 0))
  have B0 : Hid (Below w.heap.size w (w.alloc (.cells #[.slice none 0 0, .slice none 0 0] 40))) := (Below.refl _ _).alloc (Nat.le_refl _) _
  go_enter Tryz.func92, Tryz.ntmps92
  go_wp2_with fail
  refine (SP.out _).mono ?_
  rintro e w1 ⟨rfl, b1⟩
  have S1 := Lib.hid (S0.out.later b1)
  have B1 := Lib.hid (B0.out.trans (b1.mono (by simp)))
  clear b1
  go_wp2_with fail
  refine (WD1.out _).mono ?_
  rintro e w2 ⟨v1, rfl, i1, b2⟩
  have S2 := Lib.hid (S1.out.later b2)
  have B2 := Lib.hid (B1.out.trans (b2.mono B1.out.size))
  have I2 : Hid (SO w.heap.size v1 t w2) := so_base i1 B1.out.size
  have L2 : Hid (∀ k, v1.ownBlock = some k → k < w2.heap.size) := fun k hk => (i1.lt k hk).2
  clear b2 i1
  go_wp2_with fail
  refine (WD2.out _).mono ?_
  rintro e w3 ⟨v2, rfl, i2, b3⟩
  have S3 := Lib.hid (S2.out.later b3)
  have B3 := Lib.hid (B2.out.trans (b3.mono B2.out.size))
  have I3 : Hid (SO w.heap.size v1 t w3) := own_later I2.out b3
  have J3 : Hid (SO w.heap.size v2 n w3) := so_base i2 B2.out.size
  have AP : Hid (∀ k, v1.ownBlock = some k → v2.ownBlock ≠ some k) := fun k hk hk2 => by have := L2.out k hk; have := (i2.lt k hk2).1; omega
  clear b3 i2
  have P3 : Hid (SIn w3 v1 t) := SIn.own I3.out SM1.out.1 SM1.out.2
  have Q3 : Hid (SIn w3 v2 n) := SIn.own J3.out SM2.out.1 SM2.out.2
  obtain ⟨a1, c1, rfl⟩ := P3.out.shape
  obtain ⟨a2, c2, rfl⟩ := Q3.out.shape
  have b4 : Below w3.heap.size w3 (w3.alloc (.cells #[.slice a1 t.length c1, .slice a2 n.length c2] 40)) := (Below.refl _ _).alloc (Nat.le_refl _) _
  have S4 := Lib.hid (S3.out.later b4)
  have B4 := Lib.hid (B3.out.trans (b4.mono B3.out.size))
  have I4 := Lib.hid (own_later I3.out b4)
  have J4 := Lib.hid (own_later J3.out b4)
  have P4 := Lib.hid (P3.out.later b4)
  have Q4 := Lib.hid (Q3.out.later b4)
  have K4 := Lib.hid (stayR_new w3 (.slice a1 t.length c1) (.slice a2 n.length c2))
  clear b4 P3 Q3
  generalize eT : t.length = lt at *
  generalize eN : n.length = ln at *
  have ET := Lib.hid eT; have EN := Lib.hid eN
  clear eT eN
  go_wp2_with fail
  refine (rcheck_any P4.out Q4.out).mono ?_
  rintro e w5 ⟨rfl, b5⟩
  have S5 := Lib.hid (S4.out.later b5)
  have B5 := Lib.hid (B4.out.trans (b5.mono B4.out.size))
  have I5 := Lib.hid (own_later I4.out b5)
  have J5 := Lib.hid (own_later J4.out b5)
  have K5 := Lib.hid (K4.out.later b5)
  clear b5
  obtain ⟨k0, k1⟩ := K5.out.cells
  obtain ⟨s0, s1⟩ := S5.out.cells
  obtain ⟨f0, f1⟩ := S5.out.thaw
  have OTH : Hid (∀ (v : Value) (m : Nat) (xs : List Value), w5.ownsRow w.heap.size 9 1 v m xs → v.ownBlock ≠ some w.heap.size) := fun v m xs h hk => by
    rcases h.2 with ⟨rfl, _⟩ | ⟨g, cap, cur, rfl, _, hg, _⟩
    · cases hk
    · have : g = w.heap.size := Option.some.inj hk
      subst this
      have st : w5.heap[w.heap.size]? = some (.cells #[.slice none 0 0, .slice none 0 0] 40 (0, 0)) := S5.out
      rw [st] at hg
      cases hg
  have SX : Hid (∀ (v : Value) (m : Nat) (xs : List Value) (u1 u2 : Value), w5.ownsRow w.heap.size 9 1 v m xs → ((w5.setCell ⟨w.heap.size, 0, none⟩ u1).setCell ⟨w.heap.size, 1, none⟩ u2).ownsRow w.heap.size 9 1 v m xs) := fun v m xs u1 u2 h => by
    have h1 : (w5.setCell ⟨w.heap.size, 0, none⟩ u1).ownsRow w.heap.size 9 1 v m xs := ownsRow_setCell_other h (by exact OTH.out _ _ _ h) _
    exact ownsRow_setCell_other h1 (by exact OTH.out _ _ _ h) _
  by_cases hc : chkR (t, n) = 0
  · have E := Lib.hid (OK.out hc)
    rw [hc]
    clear hc
    go_wp2
    (try simp only [Exit.inBlock, Exit.then])
    refine bodyPost_ret (v := .tuple #[.agg #[.slice a1 lt c1, .slice a2 ln c2], .int .i64 0]) ?_ rfl ⟨.slice a1 lt c1, .slice a2 ln c2, by rw [E.out], ?_, ?_, AP.out, (B5.out.setCell (Nat.le_refl _) _).setCell (Nat.le_refl _) _⟩
    · rw [results_cell_tmp rfl]; go_simp
    · rw [E.out]; show World.ownsRow _ _ _ _ _ t.length _; rw [ET.out]; exact SX.out _ _ _ _ _ I5.out
    · rw [E.out]; show World.ownsRow _ _ _ _ _ n.length _; rw [EN.out]; exact SX.out _ _ _ _ _ J5.out
  · have hne : (chkR (t, n) != 0) = true := by rw [bne_iff_ne]; exact hc
    have E := Lib.hid (BAD.out hc)
    clear hc
    go_wp2
    (try simp only [Exit.inBlock, Exit.then])
    refine bodyPost_ret (v := .tuple #[.agg #[.slice none 0 0, .slice none 0 0], .int .i64 (chkR (t, n))]) ?_ rfl ⟨.slice none 0 0, .slice none 0 0, by rw [E.out], ?_, ?_, (fun k hk => by cases hk), (B5.out.setCell (Nat.le_refl _) _).setCell (Nat.le_refl _) _⟩
    · rw [results_cell_tmp rfl]; go_simp
    · rw [E.out]; exact World.ownsRow_nil _ _ _ _
    · rw [E.out]; exact World.ownsRow_nil _ _ _ _
theorem parseO_none (S : ByteArray) (w : World) (h : colon S.data.toList = none) :
    Calls Tryz.prog 92 #[.string S] w (ParseOwn S.data.toList w) := by
  have SP : Hid (∀ W, Calls Tryz.prog 89 #[.string S, .int .u8 58] W fun e w' => e = .returned (.tuple #[.string S, .string (ByteArray.mk #[]), .bool false]) ∧ w' = W) := fun W => split_no S 58 W (fun j hj => colon_none h j (by rw [size_list]; exact hj))
  unfold ParseOwn
  rw [parseR_none h]
  clear h
  go_enter Tryz.func92, Tryz.ntmps92
  go_wp2_with fail
  refine (SP.out _).mono ?_
  rintro e w' ⟨rfl, rfl⟩
  go_wp2
  (try simp only [Exit.inBlock, Exit.then])
  refine bodyPost_ret (v := .tuple #[.agg #[.slice none 0 0, .slice none 0 0], .int .i64 3]) ?_ rfl ⟨.slice none 0 0, .slice none 0 0, rfl, World.ownsRow_nil _ _ _ _, World.ownsRow_nil _ _ _ _, (fun k hk => by cases hk), (Below.refl _ _).alloc (Nat.le_refl _) _⟩
  rw [results_cell_tmp rfl]; go_simp
theorem parseO_any (S : ByteArray) (w : World) (hs : S.size ≤ 4294967296) : Calls Tryz.prog 92 #[.string S] w (ParseOwn S.data.toList w) := by
  cases h : colon S.data.toList with
  | none => exact parseO_none S w h
  | some p => exact parseO_some S w hs p h
end Go.Proofs.YtebjofffijnihaaGreatDoor
namespace Go.Proofs.YtebjofffijnihaaGreatDoor
set_option maxRecDepth 100000
open Go.ChangeShapes Go.WideShapes Go.ChangeAt Go.RowKit

end Go.Proofs.YtebjofffijnihaaGreatDoor
namespace Go.Proofs.YtebjofffijnihaaGreatDoor
set_option maxRecDepth 100000
set_option linter.unusedVariables false
open Go.ChangeShapes Go.WideShapes Go.ChangeAt Go.RowKit

/-- a string of at most 2^32 bytes -/
def Ss (u : Value) : Prop := ∃ s : ByteArray, u = .string s ∧ s.size ≤ 4294967296
/-- every cell of the slice's block is such a string -/
def Tl (v : Value) (w : World) : Prop := ∀ g, v.ownBlock = some g → ∃ cur : Array Value, w.heap[g]? = some (.cells cur 9 (0, 0)) ∧ ∀ u ∈ cur.toList, Ss u
theorem Tl.nil (w : World) (n c : Nat) : Tl (.slice none n c) w := fun g h => by cases h
theorem heap_lt {w : World} {g : Nat} {o : Obj} (h : w.heap[g]? = some o) : g < w.heap.size := (Array.getElem?_eq_some_iff.1 h).1
theorem Tl.later {v : Value} {w w' : World} (h : Tl v w) (hb : Below w.heap.size w w') : Tl v w' := fun g hg => by
  obtain ⟨cur, h1, h2⟩ := h g hg
  exact ⟨cur, (hb.block g (heap_lt h1)).trans h1, h2⟩
theorem Tl.kept {v : Value} {w w' : World} {row : Option Nat} (h : Tl v w) (hg : w.grownBy w' row) (hne : v.ownBlock = none ∨ v.ownBlock ≠ row) : Tl v w' := fun g hv => by
  obtain ⟨cur, h1, h2⟩ := h g hv
  refine ⟨cur, (hg.block g (heap_lt h1) ?_).trans h1, h2⟩
  rcases hne with h' | h'
  · rw [h'] at hv; cases hv
  · rw [← hv]; exact h'
theorem Tl.alloc {v : Value} {w : World} (h : Tl v w) (o : Obj) : Tl v (w.alloc o) := h.later ((Below.refl _ w).alloc (Nat.le_refl _) o)
theorem tl_one (w : World) (x : ByteArray) (hx : x.size ≤ 4294967296) : Tl (.slice (some ⟨w.heap.size, 0, none⟩) 1 1) (w.alloc (.cells #[.string x] 9)) := fun g hg => by
  have e : w.heap.size = g := Option.some.inj hg
  subst e
  exact ⟨_, heap_alloc_new _ _, fun u hu => by simp at hu; exact ⟨x, hu, hx⟩⟩
theorem zero_ss (n : Nat) : ∀ u ∈ (Builtin.zeroCells (Value.cells (.string ByteArray.empty)) n).toList, Ss u := by
  intro u hu
  simp only [Builtin.zeroCells, Value.cells, Array.toList_map, List.mem_map] at hu
  obtain ⟨i, _, rfl⟩ := hu
  refine ⟨ByteArray.empty, ?_, by decide⟩
  simp [Nat.mod_one]

theorem run_append_tl (w : World) (base : Nat) (ty : TypeId) (i0 : TypeInfo) (hi : Tryz.prog.info? 9 = some i0) (hz0 : i0.zero = some (.string ByteArray.empty)) (hz1 : i0.size = 1) (hz2 : i0.bytes = 16)
    (v : Value) (n : Nat) (xs : List Value) (hown : w.ownsRow base 9 1 v n xs) (ht : Tl v w) (ad : Addr) (c : Nat) (x : ByteArray) (hnews : ∀ j u, [Value.string x][j]? = some u → w.cell? (ad.add j) = some u) (hxs : x.size ≤ 4294967296)
    (h63 : n + 1 ≤ maxLen) (hbytes : (n + 1) * 16 ≤ 140737488355328) (hbase : base ≤ w.heap.size) :
    ∃ v' w', (Builtin.append_ #[23, 23] ty #[v, .slice (some ad) 1 c]).run Tryz.prog w = .ok v' w' ∧ w'.ownsRow base 9 1 v' (n + 1) (xs ++ [.string x]) ∧ w.grownBy w' v.ownBlock ∧ Tl v' w' := by
  have h1 : ∀ u ∈ [Value.string x], u.oneCell' = true := by intro u hu; simp at hu; subst hu; rfl
  obtain ⟨v', w', hr, h2, h3, _⟩ := run_append_own (P := Tryz.prog) w base 23 ty 9 i0 (.string ByteArray.empty) 1 16 Tryz.underlying23 hi hz0 hz1 hz2 rfl (by decide) v n xs hown ad 1 c [.string x] rfl hnews h1 h63 hbytes hbase
  refine ⟨v', w', hr, h2, h3, ?_⟩
  have hx : Ss (.string x) := ⟨x, rfl, hxs⟩
  rcases hown.2 with ⟨rfl, rfl⟩ | ⟨g, cap, cur, rfl, hbg, hg, hnc, hcm, hcs, htake⟩
  · have hr' := run_append_nil (P := Tryz.prog) w 23 ty 9 i0 (.string ByteArray.empty) Tryz.underlying23 hi hz0 ad 1 c [.string x] (by rw [hz1]; rfl) hnews (by decide) (by decide) (by rw [hz2]; decide)
    rw [hr'] at hr
    cases hr
    intro g hg
    have e : w.heap.size = g := Option.some.inj hg
    subst e
    refine ⟨_, heap_alloc_new w.drew _, fun u hu => ?_⟩
    rw [Array.toList_append] at hu
    rcases List.mem_append.1 hu with h' | h'
    · simp at h'; subst h'; exact hx
    · exact zero_ss _ u h'
  · obtain ⟨cur', hc1, hc2⟩ := ht g rfl
    rw [hg] at hc1
    cases hc1
    by_cases hroom : n + 1 ≤ cap
    · have hr' := run_append_room (P := Tryz.prog) w 23 ty 9 i0 Tryz.underlying23 hi g n cap cur hg ad 1 c [.string x] (by rw [hz1]; rfl) hnews h1 hroom (by rw [hz1, hcs]; simp; omega)
      rw [hr'] at hr
      cases hr
      intro g' hg'
      have e : g = g' := Option.some.inj hg'
      subst e
      refine ⟨_, setRow_heap w g cur _ 9 _ hg, fun u hu => ?_⟩
      simp only [List.mem_append] at hu
      rcases hu with (h' | h') | h'
      · exact hc2 u (List.mem_of_mem_take h')
      · simp at h'; subst h'; exact hx
      · exact hc2 u (List.mem_of_mem_drop h')
    · have holds : ∀ j u, xs[j]? = some u → w.cell? ((⟨g, 0, none⟩ : Addr).add j) = some u := hown.cells (g := g) rfl
      have hxl := hown.1
      have hr' := run_append_grow (P := Tryz.prog) w 23 ty 9 i0 (.string ByteArray.empty) Tryz.underlying23 hi hz0 ⟨g, 0, none⟩ n cap xs (by rw [hz1]; exact hxl) holds ad 1 c [.string x] (by rw [hz1]; rfl) hnews (by omega) (by unfold maxLen at h63; omega) (by rw [hz2]; exact growslice_fits (by omega) hbytes)
      rw [hr'] at hr
      cases hr
      intro g' hg'
      have e : w.heap.size = g' := Option.some.inj hg'
      subst e
      refine ⟨_, heap_alloc_new w.drew _, fun u hu => ?_⟩
      rw [Array.toList_append, Array.toList_append] at hu
      rcases List.mem_append.1 hu with h' | h'
      · rcases List.mem_append.1 h' with h' | h'
        · rw [← htake] at h'; exact hc2 u (List.mem_of_mem_take h')
        · simp at h'; subst h'; exact hx
      · exact zero_ss _ u h'
theorem wpList_append_tl (w : World) {ops : Array Oper} {rest : List Oper} {o : Oper} {a : Act} {Q : Exit → Act → World → Prop} (hgd : o.guard = none) (s x : Operand)
    (ho : o.op = .call { callee := .builtin .append, args := #[s, x], argTypes := #[23, 23] })
    (base : Nat) (i0 : TypeInfo) (hi : Tryz.prog.info? 9 = some i0) (hz0 : i0.zero = some (.string ByteArray.empty)) (hz1 : i0.size = 1) (hz2 : i0.bytes = 16)
    (v : Value) (n : Nat) (xs : List Value) (hs : a.eval s = v) (hown : w.ownsRow base 9 1 v n xs) (ht : Tl v w)
    (ad : Addr) (c : Nat) (y : ByteArray) (hx : a.eval x = .slice (some ad) 1 c) (hnews : ∀ j u, [Value.string y][j]? = some u → w.cell? (ad.add j) = some u) (hxs : y.size ≤ 4294967296)
    (h63 : n + 1 ≤ maxLen) (hbytes : (n + 1) * 16 ≤ 140737488355328) (hbase : base ≤ w.heap.size)
    (h : ∀ v' w', w'.ownsRow base 9 1 v' (n + 1) (xs ++ [.string y]) → w.grownBy w' v.ownBlock → Tl v' w' → wpList Tryz.prog ops Q rest (a.put o.dst v') w') : wpList Tryz.prog ops Q (o :: rest) a w := by
  obtain ⟨v', w', hr, h2, h3, h4⟩ := run_append_tl w base o.type i0 hi hz0 hz1 hz2 v n xs hown ht ad c y hnews hxs h63 hbytes hbase
  exact Lib.wpList_append_run w hgd s x 23 23 ho v (.slice (some ad) 1 c) hs hx v' w' hr (h v' w' h2 h3 h4)
end Go.Proofs.YtebjofffijnihaaGreatDoor
