/-
  The reference's Calls, Called and macroNames. Condition: strings of at most 2^32 bytes, at most 1048576 macros.
-/
import Derived.Test.YtoinflfibofofaaMGn
import Derived.Test.YtoinflfibofofaaMClone
namespace Go.Proofs.Ytoinflfibofofaa
set_option linter.unusedVariables false
open Go.ChangeShapes Go.WideShapes Go.ChangeAt Go.RowKit

def isR : Tok → Bool
  | .inl _ => false
  | .inr _ => true
def txt : Tok → Str
  | .inl c => [c]
  | .inr n => n
/-- the cells of a token -/
def encTk (x : Tok) : List Value := [.bool (isR x), .string (bs (txt x))]
def tkCells (z : List Tok) : List Value := z.flatMap encTk
theorem tkCells_length (z : List Tok) : (tkCells z).length = z.length * 2 := by
  induction z with
  | nil => rfl
  | cons x r ih => simp [tkCells, encTk] at ih ⊢; omega
theorem tkCells_snoc (z : List Tok) (x : Tok) : tkCells (z ++ [x]) = tkCells z ++ [.bool (isR x), .string (bs (txt x))] := by simp [tkCells, encTk]
theorem tkCells_append (y z : List Tok) : tkCells (y ++ z) = tkCells y ++ tkCells z := by simp [tkCells]
theorem tkCells_at : ∀ (z : List Tok) (k : Nat) (x : Tok), z[k]? = some x → (tkCells z)[k * 2]? = some (.bool (isR x)) ∧ (tkCells z)[k * 2 + 1]? = some (.string (bs (txt x)))
  | [], k, x, h => by simp at h
  | y :: t, 0, x, h => by
    simp at h
    subst h
    simp [tkCells, encTk]
  | y :: t, k + 1, x, h => by
    have ih := tkCells_at t k x (by simpa using h)
    have e : tkCells (y :: t) = .bool (isR y) :: .string (bs (txt y)) :: tkCells t := by simp [tkCells, encTk]
    rw [e, show (k + 1) * 2 = k * 2 + 1 + 1 by omega, show k * 2 + 1 + 1 + 1 = (k * 2 + 1) + 1 + 1 by omega]
    simpa using ih

/-- a slice that holds the tokens z -/
def CIn (w : World) (v : Value) (z : List Tok) : Prop :=
  ∃ a cap, v = .slice a z.length cap ∧ z.length ≤ cap ∧ cap ≤ maxLen ∧ z.length ≤ 8796093022208 ∧
    (z = [] ∨ ∃ b off, a = some ⟨b, off, none⟩ ∧ b < w.heap.size ∧ ∀ k x, z[k]? = some x → w.cell? ⟨b, off + k * 2, none⟩ = some (.bool (isR x)) ∧ w.cell? ⟨b, off + k * 2 + 1, none⟩ = some (.string (bs (txt x))))
theorem CIn.later {w w' : World} {v : Value} {z : List Tok} (h : CIn w v z) (hb : Below w.heap.size w w') : CIn w' v z := by
  obtain ⟨a, cap, h1, h2, h3, h4, h5⟩ := h
  refine ⟨a, cap, h1, h2, h3, h4, ?_⟩
  rcases h5 with h5 | ⟨b, off, h5, h6, h7⟩
  · exact .inl h5
  · exact .inr ⟨b, off, h5, Nat.lt_of_lt_of_le h6 hb.size, fun k x hk => ⟨cell_later hb (h7 k x hk).1, cell_later hb (h7 k x hk).2⟩⟩
theorem CIn.own {w : World} {base : Nat} {v : Value} {z : List Tok} (h : w.ownsRow base 63 2 v z.length (tkCells z)) (hn : z.length ≤ 8796093022208) : CIn w v z := by
  rcases h.2 with ⟨hv, h0⟩ | ⟨g, cap, cur, hv, hb, hg, hc, hm, hs, ht⟩
  · have : z = [] := List.length_eq_zero_iff.1 h0
    subst this
    exact ⟨none, 0, hv, Nat.le_refl _, Nat.zero_le _, Nat.zero_le _, .inl rfl⟩
  · refine ⟨_, cap, hv, hc, hm, hn, .inr ⟨g, 0, rfl, ?_, fun k x hk => ?_⟩⟩
    · rcases Nat.lt_or_ge g w.heap.size with h' | h'
      · exact h'
      · simp [Array.getElem?_eq_none h'] at hg
    · have hc := h.cells (g := g) (by rw [hv]; rfl)
      obtain ⟨h1, h2⟩ := tkCells_at z k x hk
      have e1 := hc _ _ h1
      have e2 := hc _ _ h2
      rw [add_off] at e1 e2
      rw [Nat.zero_add]
      exact ⟨e1, e2⟩
theorem CIn.open {w : World} {v : Value} {z : List Tok} (h : CIn w v z) : (z = [] ∧ ∃ a cap, v = .slice a 0 cap) ∨
    (0 < z.length ∧ ∃ b off cap, v = .slice (some ⟨b, off, none⟩) z.length cap ∧ z.length ≤ cap ∧ b < w.heap.size ∧ ∀ k x, z[k]? = some x → w.cell? ⟨b, off + k * 2, none⟩ = some (.bool (isR x)) ∧ w.cell? ⟨b, off + k * 2 + 1, none⟩ = some (.string (bs (txt x)))) := by
  obtain ⟨a, cap, rfl, h2, _, _, h5⟩ := h
  by_cases h0 : z = []
  · subst h0; exact .inl ⟨rfl, a, cap, rfl⟩
  · rcases h5 with h5 | ⟨b, off, rfl, h6, h7⟩
    · exact absurd h5 h0
    · exact .inr ⟨List.length_pos_iff.2 h0, b, off, cap, rfl, h2, h6, h7⟩
theorem infoTk : (Try.prog.info? 63).map (fun i => (i.zero, i.size, i.bytes)) = some (some (.agg #[.bool false, .string ByteArray.empty]), 2, 24) := by kernel_rfl
/-- byte k -/
def bK (S : ByteArray) (k : Nat) : UInt8 := S.data.toList.getD k 0
theorem bK_get (S : ByteArray) (k : Nat) (h : k < S.size) : S[k].toNat = (bK S k).toNat := by
  rw [byteAt_get S k h]; rfl
theorem bK_ext (S : ByteArray) (k : Nat) (h : k < S.size) : S.extract k (k + 1) = bs [bK S k] := by
  have hl : k < S.data.toList.length := by rw [size_list]; exact h
  rw [← bs_of (S.extract k (k + 1))]
  congr 1
  have := Lib.extract_toList S k (k + 1)
  rw [Lib.toList_data] at this
  rw [this, List.drop_eq_getElem_cons hl, Nat.add_sub_cancel_left, List.take_succ_cons, List.take_zero]
  unfold bK
  rw [List.getD, List.getElem?_eq_getElem hl]; rfl
theorem take_bK (S : ByteArray) (k : Nat) (h : k < S.size) : S.data.toList.take (k + 1) = S.data.toList.take k ++ [bK S k] := by
  have hl : k < S.data.toList.length := by rw [size_list]; exact h
  rw [List.take_succ_eq_append_getElem hl]
  unfold bK
  rw [List.getD, List.getElem?_eq_getElem hl]; rfl
theorem drop_bK (S : ByteArray) (k : Nat) (h : k < S.size) : S.data.toList.drop k = bK S k :: S.data.toList.drop (k + 1) := by
  have hl : k < S.data.toList.length := by rw [size_list]; exact h
  rw [List.drop_eq_getElem_cons hl]
  unfold bK
  rw [List.getD, List.getElem?_eq_getElem hl]; rfl

/-- a row of tokens of the call's own -/
def CO (B : Nat) (v : Value) (T : List Tok) (w : World) : Prop := w.ownsRow B 63 2 v T.length (tkCells T)
theorem CO.snoc {B : Nat} {v : Value} {T : List Tok} {x : Tok} {w : World} (h : w.ownsRow B 63 2 v (T.length + 1) (tkCells T ++ [.bool (isR x), .string (bs (txt x))])) : CO B v (T ++ [x]) w := by
  unfold CO; rw [List.length_append, tkCells_snoc]; exact h
theorem bs_sub (S : ByteArray) (a b : Nat) (s x r : Str) (h : S.data.toList = s ++ x ++ r) (ha : a = s.length) (hb : b = s.length + x.length) : S.extract a b = bs x := by
  rw [← bs_of (S.extract a b)]
  congr 1
  have := Lib.extract_toList S a b
  rw [Lib.toList_data] at this
  rw [this, h, ha, hb, List.append_assoc, List.drop_left, Nat.add_sub_cancel_left, List.take_left]
theorem byte_eq (c : UInt8) (n : Nat) (hn : n < 256) : ((c.toNat : Int) == (n : Int)) = decide (c = UInt8.ofNat n) := by
  rw [Bool.eq_iff_iff, beq_iff_eq, decide_eq_true_iff]
  constructor
  · intro h
    apply UInt8.toNat_inj.1
    rw [UInt8.toNat_ofNat_of_lt' (by omega)]; omega
  · intro h
    rw [h, UInt8.toNat_ofNat_of_lt' (by omega)]
theorem byte_yes {c : UInt8} {n : Nat} (hn : n < 256) (h : c = UInt8.ofNat n) : ((c.toNat : Int) == (n : Int)) = true ∧ ((c.toNat : Int) != (n : Int)) = false := by
  have := byte_eq c n hn
  rw [decide_eq_true h] at this
  exact ⟨this, by rw [bne, this]; rfl⟩
theorem byte_no {c : UInt8} {n : Nat} (hn : n < 256) (h : c ≠ UInt8.ofNat n) : ((c.toNat : Int) == (n : Int)) = false ∧ ((c.toNat : Int) != (n : Int)) = true := by
  have := byte_eq c n hn
  rw [decide_eq_false h] at this
  exact ⟨this, by rw [bne, this]; rfl⟩
theorem cut_name {s : Str} {f : Nat → UInt8} {n : Nat} (HD : ∀ i, i < n → s.drop i = f i :: s.drop (i + 1)) {m : Nat} (hm : m < n) (h41 : f m = 41) :
    ∀ (d k : Nat), m - k = d → k ≤ m → (∀ i, k ≤ i → i < m → f i ≠ 41) → ∃ x, s.drop k = x ++ 41 :: s.drop (m + 1) ∧ 41 ∉ x ∧ x.length = m - k
  | 0, k, hd, hk, hno => by
    obtain rfl : k = m := by omega
    exact ⟨[], by rw [HD k hm, h41]; rfl, List.not_mem_nil, by simp⟩
  | d + 1, k, hd, hk, hno => by
    obtain ⟨x, h1, h2, h3⟩ := cut_name HD hm h41 d (k + 1) (by omega) (by omega) (fun i h1 h2 => hno i (by omega) h2)
    refine ⟨f k :: x, by rw [HD k (by omega), h1]; rfl, fun e => ?_, by rw [List.length_cons]; omega⟩
    rcases List.mem_cons.1 e with e | e
    · exact hno k (Nat.le_refl _) (by omega) e.symm
    · exact h2 e
theorem no_close {s : Str} {f : Nat → UInt8} {n : Nat} (HD : ∀ i, i < n → s.drop i = f i :: s.drop (i + 1)) (HN : s.drop n = []) :
    ∀ (d k : Nat), n - k = d → k ≤ n → (∀ i, k ≤ i → i < n → f i ≠ 41) → 41 ∉ s.drop k
  | 0, k, hd, hk, hno => by
    obtain rfl : k = n := by omega
    rw [HN]; exact List.not_mem_nil
  | d + 1, k, hd, hk, hno => by
    have ih := no_close HD HN d (k + 1) (by omega) (by omega) (fun i h1 h2 => hno i (by omega) h2)
    rw [HD k (by omega)]
    intro e
    rcases List.mem_cons.1 e with e | e
    · exact hno k (Nat.le_refl _) (by omega) e.symm
    · exact ih e
theorem tk_bad' {c : UInt8} {r : Str} (h1 : c ≠ 36) (h2 : c ≠ 40) : tk (some none) (c :: r) = none := by simp only [tk]; rw [if_neg h1, if_neg h2]
/-- what Calls hands back -/
def CallPost (s : Str) (w : World) (e : Ending) (w' : World) : Prop :=
  Below w.heap.size w w' ∧ ((∃ T v, tk none s = some T ∧ T.length ≤ s.length ∧ e = .returned (.tuple #[v, .bool true]) ∧ CIn w' v T) ∨ (tk none s = none ∧ e = .returned (.tuple #[.slice none 0 0, .bool false])))
set_option maxHeartbeats 8000000 in
set_option maxRecDepth 100000 in
theorem calls_any (S : ByteArray) (w : World) (hs : S.size ≤ 4294967296) :
    Calls Try.prog 14 #[.string S] w (CallPost S.data.toList w) := by
  have HF : Hid (∀ k (h : k < S.size), S[k].toNat = (bK S k).toNat) := bK_get S
  have HX : Hid (∀ k, k < S.size → S.extract k (k + 1) = bs [bK S k]) := bK_ext S
  have HD : Hid (∀ k, k < S.size → S.data.toList.drop k = bK S k :: S.data.toList.drop (k + 1)) := drop_bK S
  have HN : Hid (S.data.toList.drop S.size = []) := Lib.hid (by rw [← size_list]; exact List.drop_length)
  have SL : Hid (S.data.toList.length = S.size) := size_list S
  have SB : Hid (∀ (a b : Nat) (s x r : Str), S.data.toList = s ++ x ++ r → a = s.length → b = s.length + x.length → S.extract a b = bs x) := bs_sub S
  obtain ⟨i0, hi, hz0, hz1, hz2⟩ := info_parts infoTk
  have HI := Lib.hid hi; clear hi
  generalize bK S = f at *
  generalize S.data.toList = s at *
  go_enter Try.func14, Try.ntmps14
  go_wp2_with fail
  go_loopw [4, 5] (fun o i wr => ∃ (k : Nat) (T : List Tok), k ≤ S.size ∧ CO w.heap.size o T wr ∧ i = .int .i64 (k : Int) ∧ tk none s = (tk none (s.drop k)).map (T ++ ·) ∧ T.length ≤ k ∧ Below w.heap.size w wr) (fun _ i _ => S.size - (intOf i).toNat)
  case atStart => exact ⟨0, [], Nat.zero_le _, World.ownsRow_nil _ _ _ _, rfl, by rw [List.drop_zero]; cases tk none s <;> simp, Nat.le_refl _, Below.refl _ _⟩
  case round =>
    obtain ⟨k, T, hk, qo, rfl, q1, hT, qb⟩ := hrel
    have QO := Lib.hid qo; have Q1 := Lib.hid q1; have QB := Lib.hid qb; clear qo q1 qb
    have OA : Hid (∀ o, (wr.alloc o).ownsRow w.heap.size 63 2 u4 T.length (tkCells T)) := fun o => World.ownsRow.alloc QO.out o
    have SA : Hid (∀ o, w.heap.size ≤ (wr.alloc o).heap.size) := fun o => by have := QB.out.size; simp; omega
    have LT : Hid (∀ k, u4.ownBlock = some k → w.heap.size ≤ k) := fun k hk => (QO.out.lt k hk).1
    have WA : Hid (∀ o, Below w.heap.size w (wr.alloc o)) := fun o => QB.out.alloc QB.out.size o
    by_cases hlt : k < S.size
    · have hb := HF.out k hlt
      have D := Lib.hid (HD.out k hlt)
      by_cases h36 : f k = 36
      · obtain ⟨b1, b1'⟩ : (((f (k)).toNat : Int) == 36) = true ∧ (((f (k)).toNat : Int) != 36) = false := byte_yes (n := 36) (by omega) h36
        have E : Hid (tk none s = (tk (some none) (s.drop (k + 1))).map (T ++ ·)) := by show _ = _; rw [Q1.out, D.out, h36, tk_dollar]
        clear Q1 D h36
        by_cases hlt1 : k + 1 < S.size
        · have hb1 := HF.out (k + 1) hlt1
          have D1 := Lib.hid (HD.out (k + 1) hlt1)
          by_cases h36 : f (k + 1) = 36
          · obtain ⟨b2, b2'⟩ : (((f (k + 1)).toNat : Int) == 36) = true ∧ (((f (k + 1)).toNat : Int) != 36) = false := byte_yes (n := 36) (by omega) h36
            have E2 : Hid (tk none s = (tk none (s.drop (k + 2))).map ((T ++ [Sum.inl 36]) ++ ·)) := by
              show _ = _; rw [E.out, D1.out, h36, tk_two]; cases tk none (s.drop (k + 1 + 1)) <;> simp
            have e36 : bs [36] = ByteArray.mk #[36] := rfl
            clear h36 E D1
            go_wp2_with (at_builtin; go_must (refine wpList_append_own _ rfl (.tmp 36) (.tmp 38) 35 rfl w.heap.size 63 i0 (.agg #[.bool false, .string ByteArray.empty]) 2 24 Try.underlying35 HI.out hz0 hz1 hz2 rfl (by decide) _ _ _ rfl (OA.out _) ⟨wr.heap.size, 0, none⟩ 1 1 [.bool false, .string (bs [36])] rfl rfl (two_new _ _ _ _) (by intro u hu; simp at hu; rcases hu with rfl | rfl <;> rfl) (by unfold maxLen; omega) (by omega) (SA.out _) ?_; intro v4 w4 q1 q2 q3; have O4 := Lib.hid q1; have G4 := Lib.hid q2; clear q1 q2 q3))
            go_roundw
            case rel => exact ⟨k + 2, T ++ [.inl 36], by omega, CO.snoc (x := .inl 36) O4.out, by go_num, E2.out, by simp; omega, (WA.out _).grown G4.out (SA.out _) LT.out⟩
            case measure => simp [intOf]; omega
          · obtain ⟨b2, b2'⟩ : (((f (k + 1)).toNat : Int) == 36) = false ∧ (((f (k + 1)).toNat : Int) != 36) = true := byte_no (n := 36) (by omega) h36
            have H36 := Lib.hid h36; clear h36
            go_wp2_with fail
            go_loopw [6] (fun j wq => ∃ m : Nat, k + 1 ≤ m ∧ m ≤ S.size ∧ j = .int .i64 (m : Int) ∧ (∀ i, k + 1 ≤ i → i < m → f i ≠ 41) ∧ wq = wr) (fun j _ => S.size - (intOf j).toNat)
            case atStart => exact ⟨k + 1, Nat.le_refl _, by omega, by go_num, fun i h1 h2 => by omega, rfl⟩
            case round =>
              obtain ⟨m, hm1, hm2, rfl, hm3, rfl⟩ := hrel
              have M3 := Lib.hid hm3; clear hm3
              by_cases hml : m < S.size
              · have hb2 := HF.out m hml
                by_cases h41 : f m = 41
                · obtain ⟨b4, b4'⟩ : (((f (m)).toNat : Int) == 41) = true ∧ (((f (m)).toNat : Int) != 41) = false := byte_yes (n := 41) (by omega) h41
                  by_cases h40 : f (k + 1) = 40
                  · obtain ⟨b3, b3'⟩ : (((f (k + 1)).toNat : Int) == 40) = true ∧ (((f (k + 1)).toNat : Int) != 40) = false := byte_yes (n := 40) (by omega) h40
                    have hkm : k + 2 ≤ m := by
                      rcases Nat.lt_or_ge m (k + 2) with h | h
                      · obtain rfl : m = k + 1 := by omega
                        rw [h41] at h40; exact absurd h40 (by decide)
                      · exact h
                    obtain ⟨x, x1, x2, x3⟩ := cut_name HD.out hml h41 _ (k + 2) rfl hkm (fun i h1 h2 => M3.out i (by omega) h2)
                    have EX : S.extract (k + 2) m = bs x := SB.out (k + 2) m (s.take (k + 2)) x (41 :: s.drop (m + 1)) (by rw [List.append_assoc, ← x1, List.take_append_drop]) (by rw [List.length_take, SL.out]; omega) (by rw [List.length_take, SL.out]; omega)
                    have E3 : Hid (tk none s = if good x then (tk none (s.drop (m + 1))).map ((T ++ [Sum.inr x]) ++ ·) else none) := by
                      show _ = _
                      rw [E.out, D1.out, h40, tk_par, show k + 1 + 1 = k + 2 from rfl, x1, tk_in _ _ _ x2, List.nil_append]
                      cases good x
                      · rfl
                      · cases tk none (s.drop (m + 1)) <;> simp
                    have GN := Lib.hid (goodName_any (bs x) wr (by rw [bs_size]; omega))
                    rw [bs_list] at GN
                    have XS : (bs x).size = m - (k + 2) := by rw [bs_size]; exact x3
                    clear h40 h41 x1 x2 x3 E D1 H36 M3
                    go_wp2_with fail
                    refine GN.out.mono ?_
                    rintro e w5 ⟨rfl, h⟩
                    rw [h]
                    clear h w5
                    cases hg : good x
                    · have E4 : Hid (tk none s = none) := by show _ = _; rw [E3.out, hg]; rfl
                      clear hg GN
                      go_wp2
                      go_ret2
                      exact ⟨QB.out, .inr ⟨E4.out, rfl⟩⟩
                    · have E4 : Hid (tk none s = (tk none (s.drop (m + 1))).map ((T ++ [Sum.inr x]) ++ ·)) := by show _ = _; rw [E3.out, hg]; rfl
                      clear hg GN E3
                      go_wp2_with (at_builtin; go_must (refine wpList_append_own _ rfl (.tmp 72) (.tmp 79) 35 rfl w.heap.size 63 i0 (.agg #[.bool false, .string ByteArray.empty]) 2 24 Try.underlying35 HI.out hz0 hz1 hz2 rfl (by decide) _ _ _ rfl (OA.out _) ⟨wr.heap.size, 0, none⟩ 1 1 [.bool true, .string (bs x)] rfl rfl (two_new _ _ _ _) (by intro u hu; simp at hu; rcases hu with rfl | rfl <;> rfl) (by unfold maxLen; omega) (by omega) (SA.out _) ?_; intro v4 w4 q1 q2 q3; have O4 := Lib.hid q1; have G4 := Lib.hid q2; clear q1 q2 q3))
                      go_roundw
                      case rel => exact ⟨m + 1, T ++ [.inr x], by omega, CO.snoc (x := .inr x) O4.out, by go_num, E4.out, by simp; omega, (WA.out _).grown G4.out (SA.out _) LT.out⟩
                      case measure => simp [intOf]; omega
                  · obtain ⟨b3, b3'⟩ : (((f (k + 1)).toNat : Int) == 40) = false ∧ (((f (k + 1)).toNat : Int) != 40) = true := byte_no (n := 40) (by omega) h40
                    have E4 : Hid (tk none s = none) := by show _ = _; rw [E.out, D1.out, tk_bad' H36.out h40]; rfl
                    clear h40 h41
                    go_wp2
                    go_ret2
                    exact ⟨QB.out, .inr ⟨E4.out, rfl⟩⟩
                · obtain ⟨b4, b4'⟩ : (((f (m)).toNat : Int) == 41) = false ∧ (((f (m)).toNat : Int) != 41) = true := byte_no (n := 41) (by omega) h41
                  have H41 := Lib.hid h41; clear h41
                  go_wp2
                  go_roundw
                  case rel =>
                    refine ⟨m + 1, by omega, by omega, by go_num, fun i h1 h2 => ?_, trivial⟩
                    rcases Nat.lt_succ_iff_lt_or_eq.1 h2 with h | h
                    · exact M3.out i h1 h
                    · rw [h]; exact H41.out
                  case measure => simp [intOf]; omega
              · have hmS : m = S.size := by omega
                have t5 : decide (m < S.size) = false := decide_eq_false hml
                have t6 : ((m : Int) == (S.size : Int)) = true := by rw [beq_iff_eq, hmS]
                by_cases h40 : f (k + 1) = 40
                · obtain ⟨b3, b3'⟩ : (((f (k + 1)).toNat : Int) == 40) = true ∧ (((f (k + 1)).toNat : Int) != 40) = false := byte_yes (n := 40) (by omega) h40
                  have E4 : Hid (tk none s = none) := by
                    show _ = _
                    rw [E.out, D1.out, h40, tk_par, tk_open _ _ (no_close HD.out HN.out _ (k + 1 + 1) rfl (by omega) (fun i h1 h2 => M3.out i (by omega) (by omega)))]; rfl
                  clear h40 hmS
                  go_wp2
                  go_ret2
                  exact ⟨QB.out, .inr ⟨E4.out, rfl⟩⟩
                · obtain ⟨b3, b3'⟩ : (((f (k + 1)).toNat : Int) == 40) = false ∧ (((f (k + 1)).toNat : Int) != 40) = true := byte_no (n := 40) (by omega) h40
                  have E4 : Hid (tk none s = none) := by show _ = _; rw [E.out, D1.out, tk_bad' H36.out h40]; rfl
                  clear h40 hmS
                  go_wp2
                  go_ret2
                  exact ⟨QB.out, .inr ⟨E4.out, rfl⟩⟩
        · have hS : S.size = k + 1 := by omega
          have t5 : (((k : Int) + 1) == (S.size : Int)) = true := by rw [beq_iff_eq, hS]; omega
          have E4 : Hid (tk none s = none) := by show _ = _; rw [E.out, ← hS, HN.out]; simp [tk]
          clear hS
          go_wp2
          go_ret2
          exact ⟨QB.out, .inr ⟨E4.out, rfl⟩⟩
      · obtain ⟨b1, b1'⟩ : (((f (k)).toNat : Int) == 36) = false ∧ (((f (k)).toNat : Int) != 36) = true := byte_no (n := 36) (by omega) h36
        have E : Hid (tk none s = (tk none (s.drop (k + 1))).map ((T ++ [Sum.inl (f k)]) ++ ·)) := by
          show _ = _; rw [Q1.out, D.out]; simp only [tk]; rw [if_neg h36]; cases tk none (s.drop (k + 1)) <;> simp
        have hx := HX.out k hlt
        have h1 : (bs [f k]).size = 1 := bs_size _
        clear h36 D Q1
        go_wp2_with (at_builtin; go_must (refine wpList_append_own _ rfl (.tmp 17) (.tmp 24) 35 rfl w.heap.size 63 i0 (.agg #[.bool false, .string ByteArray.empty]) 2 24 Try.underlying35 HI.out hz0 hz1 hz2 rfl (by decide) _ _ _ rfl (OA.out _) ⟨wr.heap.size, 0, none⟩ 1 1 [.bool false, .string (bs [f k])] rfl rfl (two_new _ _ _ _) (by intro u hu; simp at hu; rcases hu with rfl | rfl <;> rfl) (by unfold maxLen; omega) (by omega) (SA.out _) ?_; intro v4 w4 q1 q2 q3; have O4 := Lib.hid q1; have G4 := Lib.hid q2; clear q1 q2 q3))
        go_roundw
        case rel => exact ⟨k + 1, T ++ [.inl (f k)], by omega, CO.snoc (x := .inl (f k)) O4.out, by go_num, E.out, by simp; omega, (WA.out _).grown G4.out (SA.out _) LT.out⟩
        case measure => simp [intOf]; omega
    · obtain rfl : k = S.size := by omega
      have E : Hid (tk none s = some T) := by show _ = _; rw [Q1.out, HN.out]; simp [tk]
      go_wp2
      go_ret2
      exact ⟨QB.out, .inl ⟨T, _, E.out, by rw [SL.out]; exact hT, rfl, CIn.own QO.out (by omega)⟩⟩
end Go.Proofs.Ytoinflfibofofaa
