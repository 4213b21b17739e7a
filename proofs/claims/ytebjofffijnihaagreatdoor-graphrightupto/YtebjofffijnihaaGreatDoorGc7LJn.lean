/-
  What package line's Join answers, at every string. No condition.
  Plain facts on the words of a line: runs of bytes that are no blanks; the pieces that strings.FieldsFunc cuts are these. No condition.
  strings.ContainsAny with a space and a tab, at a string that has neither, whatever its bytes. Condition: the string is shorter than 2^62 bytes.
  What package line's Words, strings.Join with a space and slices.Equal of strings answer; that package line is alive. Condition: the string is shorter than 2^32 bytes.
-/
import Derived.Test.YtebjofffijnihaaGreatDoorGc6MRep
import Derived.Deep.Onto
import Derived.Test.YtebjofffijnihaaGreatDoorGc4LIn
import Derived.Lib.FieldsP
import Derived.Lib.MapLaws
import Derived.Lib.TrimUEq
import Derived.Lib.Bytealg
import Derived.Laws.Externs
import Derived.Lib.AsciiSet
import Derived.Lib.Builder
import Derived.Deep.WholeRow
import Derived.Laws.Runes
import Derived.Laws.RangeString
import Derived.Lib.OthersKept
import Derived.Lib.DecodeN
import Derived.WalkMore
import Derived.Deep.LoopGhost
import Derived.Deep.Draws
import Derived.Shelf.SlicesE.Equal
namespace Go.Proofs.YtebjofffijnihaaGreatDoor
set_option maxRecDepth 100000
open Go.ChangeShapes Go.WideShapes Go.ChangeAt Go.RowKit

theorem lines_length : ∀ (f n : Nat) (L : List Str), (linesF f n L).length ≤ L.length
  | 0, _, _ => by simp [linesF]
  | f + 1, n, [] => by simp [linesF]
  | f + 1, n, x :: r => by
    have hp := joinH_pos x r
    have ih := lines_length f (n + (joinH (x :: r)).2) ((x :: r).drop (joinH (x :: r)).2)
    have hl := joinH_le (x :: r)
    rw [linesF, if_neg (by simp), List.length_append]
    rw [List.length_drop] at ih
    simp only [List.length_cons] at ih hl ⊢
    split <;> simp <;> omega
theorem linesAt_length (n : Nat) (L : List Str) : (linesAt n L).length ≤ L.length := lines_length _ _ _
/-- one step of Join's loop -/
theorem lines_step {L : List Str} {p : Nat} (h : p < L.length) : ∃ (t : Str) (c : Nat), joinH (L.drop p) = (t, c) ∧ 0 < c ∧ p + c ≤ L.length ∧ t.length ≤ bulk L ∧
    linesAt p (L.drop p) = (if unc t = [] then [] else [(((p + 1 : Nat) : Int), unc t)]) ++ linesAt (p + c) (L.drop (p + c)) := by
  have hne : L.drop p ≠ [] := by intro e; have := congrArg List.length e; simp at this; omega
  obtain ⟨x, r, e⟩ := List.exists_cons_of_ne_nil hne
  have hp := joinH_pos x r
  have hl := joinH_le (L.drop p)
  rw [List.length_drop] at hl
  have hc := linesAt_cons p (L.drop p) hne
  have hb := Nat.le_trans (joinH_len (L.drop p)) (bulk_drop L p)
  rw [← e] at hp
  refine ⟨(joinH (L.drop p)).1, (joinH (L.drop p)).2, rfl, hp, by omega, hb, ?_⟩
  rw [hc, List.drop_drop]
theorem SIn.drop {w : World} {b off n cap : Nat} {z : List Str} (h : SIn w (.slice (some ⟨b, off, none⟩) n cap) z) {p : Nat} (hp : p < z.length) : SIn w (.slice (some ⟨b, off + p, none⟩) (n - p) (cap - p)) (z.drop p) := by
  obtain ⟨a, c, hv, h2, h3, h4, h5⟩ := h
  cases hv
  refine ⟨_, _, by rw [List.length_drop], by rw [List.length_drop]; omega, by rw [List.length_drop]; omega, fun x hx => h4 x (List.mem_of_mem_drop hx), ?_⟩
  rcases h5 with rfl | ⟨b', off', e, h6, h7⟩
  · simp at hp
  · cases e
    refine .inr ⟨b, off + p, rfl, h6, fun k hk => ?_⟩
    rw [List.length_drop] at hk
    have := h7 (p + k) (by omega)
    rw [Nat.add_assoc, this]
    simp [List.getD, List.getElem?_drop]
/-- byte k -/
def gB (S : ByteArray) (k : Nat) : UInt8 := S.data.toList.getD k 0
theorem may_nat (S : ByteArray) (k : Nat) (h : k < S.size) : S[k].toNat = (gB S k).toNat := by
  rw [byteAt_get S k h]; rfl
theorem may_all {S : ByteArray} (h : ∀ k, k < S.size → may (gB S k) = true) : S.data.toList.all may = true := by
  rw [List.all_eq_true]
  intro c hc
  obtain ⟨k, hk, rfl⟩ := List.mem_iff_getElem.1 hc
  have := h k (by rw [← size_list]; exact hk)
  unfold gB at this
  rw [List.getD, List.getElem?_eq_getElem hk] at this
  exact this
theorem may_bad {S : ByteArray} {k : Nat} (hk : k < S.size) (h : may (gB S k) = false) : S.data.toList.all may = false := by
  have hk' : k < S.data.toList.length := by rw [size_list]; exact hk
  unfold gB at h
  rw [List.getD, List.getElem?_eq_getElem hk'] at h
  rw [List.all_eq_false]
  exact ⟨_, List.getElem_mem hk', by rw [show S.data.toList[k] = (some S.data.toList[k]).getD 0 from rfl, h]; simp⟩
theorem bulk_text {s : Str} (h : s.length ≤ 20000) : bulk (phys s) ≤ 20001 := Nat.le_trans (bulk_phys s) (by omega)

theorem own_later {w w' : World} {base : Nat} {ty : TypeId} {size : Nat} {v : Value} {n : Nat} {xs : List Value} (h : w.ownsRow base ty size v n xs) (hb : Below w.heap.size w w') : w'.ownsRow base ty size v n xs :=
  h.kept (row := none) ⟨hb.os, hb.tape, hb.output, hb.size, fun k hk _ => hb.block k hk⟩ (by cases v.ownBlock <;> simp)
end Go.Proofs.YtebjofffijnihaaGreatDoor
namespace Go.Proofs.YtebjofffijnihaaGreatDoor
set_option maxRecDepth 100000

/-- the words, the bytes 'word' in hand -/
def wgo (word : Str) : Str → List Str
  | [] => if word = [] then [] else [word]
  | c :: r => if bl c then (if word = [] then wgo [] r else word :: wgo [] r) else wgo (word ++ [c]) r
def words (s : Str) : List Str := wgo [] s
theorem wgo_end {word : Str} (h : word ≠ []) : wgo word [] = [word] := by rw [wgo, if_neg h]
theorem wgo_cut {word r : Str} {c : UInt8} (h : word ≠ []) (hb : bl c = true) : wgo word (c :: r) = word :: wgo [] r := by rw [wgo, if_pos hb, if_neg h]
theorem wgo_skip {r : Str} {c : UInt8} (hb : bl c = true) : wgo [] (c :: r) = wgo [] r := by rw [wgo, if_pos hb, if_pos rfl]
theorem wgo_nb : ∀ (x word r : Str), (∀ c ∈ x, bl c = false) → wgo word (x ++ r) = wgo (word ++ x) r
  | [], word, r, _ => by simp
  | c :: x, word, r, h => by
    rw [List.cons_append, wgo, h c (by simp)]
    simp only [Bool.false_eq_true, if_false]
    rw [wgo_nb x (word ++ [c]) r (fun d hd => h d (by simp [hd]))]
    simp
theorem wgo_ok : ∀ (s word : Str), (∀ c ∈ word, bl c = false) → ∀ x ∈ wgo word s, x ≠ [] ∧ ∀ c ∈ x, bl c = false
  | [], word, hw, x, hx => by
    rw [wgo] at hx
    split at hx
    · simp at hx
    · simp at hx; subst hx; exact ⟨by assumption, hw⟩
  | c :: r, word, hw, x, hx => by
    rw [wgo] at hx
    split at hx
    · split at hx
      · exact wgo_ok r [] (by simp) x hx
      · rcases List.mem_cons.1 hx with rfl | hx
        · exact ⟨by assumption, hw⟩
        · exact wgo_ok r [] (by simp) x hx
    · rename_i hc
      exact wgo_ok r (word ++ [c]) (fun d hd => by
        rcases List.mem_append.1 hd with h | h
        · exact hw d h
        · simp at h; subst h; simpa using hc) x hx
theorem words_ok (s : Str) : ∀ x ∈ words s, x ≠ [] ∧ ∀ c ∈ x, bl c = false := wgo_ok s [] (by simp)
theorem bulk_cons (x : Str) (r : List Str) : bulk (x :: r) = x.length + 1 + bulk r := by simp [bulk]
theorem wgo_bulk : ∀ (s word : Str), bulk (wgo word s) ≤ word.length + s.length + 1
  | [], word => by
    rw [wgo]; split
    · simp [bulk]
    · rw [bulk_cons]; simp [bulk]
  | c :: r, word => by
    have h1 := wgo_bulk r []
    have h2 := wgo_bulk r (word ++ [c])
    simp at h1 h2
    rw [wgo]; split
    · split
      · simp; omega
      · rw [bulk_cons]; simp; omega
    · simp; omega
theorem words_bulk (s : Str) : bulk (words s) ≤ s.length + 1 := by have := wgo_bulk s []; simp at this; exact this
theorem bulk_len (L : List Str) : L.length ≤ bulk L := by
  induction L with
  | nil => simp
  | cons x r ih => rw [bulk_cons]; simp; omega
theorem bulk_in {L : List Str} {x : Str} (h : x ∈ L) : x.length ≤ bulk L := by
  induction L with
  | nil => simp at h
  | cons y r ih =>
    rw [bulk_cons]
    rcases List.mem_cons.1 h with rfl | h
    · omega
    · have := ih h; omega
theorem join_len (L : List Str) : (Lib.join L [32]).length ≤ bulk L := by
  cases L with
  | nil => simp [Lib.join_nil]
  | cons x r =>
    rw [Lib.join_cons, bulk_cons]
    have : (Lib.joinTail [32] r).length = bulk r := by
      unfold Lib.joinTail bulk
      induction r with
      | nil => rfl
      | cons y t ih => simp at ih ⊢; omega
    simp; omega
/-- joined by spaces, the same words -/
theorem words_join {L : List Str} (h : ∀ x ∈ L, x ≠ [] ∧ ∀ c ∈ x, bl c = false) : words (Lib.join L [32]) = L := by
  cases L with
  | nil => rfl
  | cons x r =>
    have key : ∀ (r : List Str) (x : Str), x ≠ [] → (∀ y ∈ r, y ≠ [] ∧ ∀ c ∈ y, bl c = false) → wgo x (Lib.joinTail [32] r) = x :: r := by
      intro r
      induction r with
      | nil => intro x hx _; simp [Lib.joinTail, wgo, hx]
      | cons y t ih =>
        intro x hx hr
        have hy := hr y (by simp)
        have e : Lib.joinTail [32] (y :: t) = 32 :: (y ++ Lib.joinTail [32] t) := by simp [Lib.joinTail]
        rw [e, wgo, show bl 32 = true from rfl, if_pos rfl, if_neg hx, wgo_nb y [] _ hy.2, List.nil_append, ih y hy.1 (fun z hz => hr z (by simp [hz]))]
    have hx := h x (by simp)
    rw [Lib.join_cons, words, wgo_nb x [] _ hx.2, List.nil_append, key r x hx.1 (fun y hy => h y (by simp [hy]))]
theorem wgo_some {s word : Str} (h : word ≠ []) : wgo word s ≠ [] := by
  induction s generalizing word with
  | nil => simp [wgo, h]
  | cons c r ih =>
    rw [wgo]; split
    · simp
    · exact ih (by simp)
theorem words_nil (s : Str) : words s = [] ↔ ∀ c ∈ s, bl c = true := by
  unfold words
  induction s with
  | nil => simp [wgo]
  | cons c r ih =>
    rw [wgo]
    cases hc : bl c with
    | true => simp [ih, hc]
    | false =>
      simp only [Bool.false_eq_true, if_false, List.nil_append]
      constructor
      · intro h; exact absurd h (wgo_some (by simp))
      · intro h; have := h c (by simp); simp [hc] at this
theorem drop_nil (l : Str) : l.dropWhile bl = [] ↔ ∀ c ∈ l, bl c = true := by
  induction l with
  | nil => simp
  | cons c r ih =>
    rw [List.dropWhile_cons]
    cases hc : bl c with
    | true => simp [ih, hc]
    | false => simp [hc]
theorem trimr_nil (s : Str) : trimr s = [] ↔ ∀ c ∈ s, bl c = true := by
  unfold trimr
  rw [List.reverse_eq_nil_iff, drop_nil]
  simp
theorem mem_trimr {s : Str} {c : UInt8} (h : c ∈ trimr s) : c ∈ s := by
  unfold trimr at h
  rw [List.mem_reverse] at h
  have := (List.dropWhile_sublist bl).subset h
  simpa using this
theorem trimr_end {s : Str} (h : trimr s ≠ []) : ∃ c ∈ trimr s, bl c = false := by
  unfold trimr at h ⊢
  rw [Ne, List.reverse_eq_nil_iff] at h
  generalize s.reverse = l at *
  induction l with
  | nil => simp at h
  | cons c r ih =>
    rw [List.dropWhile_cons] at h ⊢
    cases hc : bl c with
    | true => simp only [hc, if_true] at h ⊢; exact ih h
    | false => exact ⟨c, by simp, hc⟩
theorem trim_nil (s : Str) : triml (trimr s) = [] ↔ words s = [] := by
  rw [words_nil, ← trimr_nil]
  constructor
  · intro h
    unfold triml at h
    rw [drop_nil] at h
    rcases Decidable.em (trimr s = []) with e | e
    · exact e
    · obtain ⟨c, hc, hb⟩ := trimr_end e
      rw [h c hc] at hb; cases hb
  · intro h; rw [h]; rfl

/-- a rune that is a blank -/
def blR (x : Nat) : Bool := x == 32 || x == 9
theorem bl_nat (c : UInt8) : bl c = blR c.toNat := by
  unfold bl blR
  have e : ∀ d : UInt8, (c == d) = (c.toNat == d.toNat) := fun d => by
    rw [Bool.eq_iff_iff, beq_iff_eq, beq_iff_eq]
    exact ⟨fun h => by rw [h], UInt8.toNat_inj.1⟩
  rw [e 32, e 9]; rfl
theorem dec_step (s : ByteArray) (pos : Nat) (h : pos < s.size) :
    1 ≤ (Utf8.decode s pos).2 ∧ pos + (Utf8.decode s pos).2 ≤ s.size ∧ (blR (Utf8.decode s pos).1 = true → (Utf8.decode s pos).2 = 1 ∧ bl (s.data.toList.getD pos 0) = true) ∧
      (blR (Utf8.decode s pos).1 = false → ∀ j, j < (Utf8.decode s pos).2 → bl (s.data.toList.getD (pos + j) 0) = false) := by
  have hl := size_list s
  have big : ∀ c : UInt8, 128 ≤ c.toNat → bl c = false := fun c hc => by rw [bl_nat]; unfold blR; simp; omega
  rw [Lib.decode_N, hl]
  generalize s.data.toList = l at *
  have lit : ∀ n : Nat, 128 ≤ n → blR n = false := fun n hn => by unfold blR; simp; omega
  rcases Lib.decodeN_shape (s.size - pos) (l.getD pos 0).toNat (l.getD (pos + 1) 0).toNat (l.getD (pos + 2) 0).toNat (l.getD (pos + 3) 0).toNat with ⟨h0, e⟩ | ⟨h0, h1, h2, h3, e⟩ | ⟨h0, h1, h2, h3, h4, h5, e⟩ | ⟨h0, h1, h2, h3, h4, h5, h6, e⟩ | e
  · rw [e]
    refine ⟨Nat.le_refl _, by show pos + 1 ≤ _; omega, fun hb => ⟨rfl, by rw [bl_nat]; exact hb⟩, fun hb j hj => ?_⟩
    obtain rfl : j = 0 := by have : j < 1 := hj; omega
    rw [Nat.add_zero, bl_nat]; exact hb
  · rw [e]
    refine ⟨by show 1 ≤ 2; omega, by show pos + 2 ≤ _; omega, fun hb => ?_, fun _ j hj => ?_⟩
    · rw [lit _ h3] at hb; cases hb
    · have hj : j < 2 := hj
      apply big
      rcases (by omega : j = 0 ∨ j = 1) with rfl | rfl
      · rw [Nat.add_zero]; omega
      · omega
  · rw [e]
    refine ⟨by show 1 ≤ 3; omega, by show pos + 3 ≤ _; omega, fun hb => ?_, fun _ j hj => ?_⟩
    · rw [lit _ (by omega)] at hb; cases hb
    · have hj : j < 3 := hj
      apply big
      rcases (by omega : j = 0 ∨ j = 1 ∨ j = 2) with rfl | rfl | rfl
      · rw [Nat.add_zero]; omega
      · omega
      · omega
  · rw [e]
    refine ⟨by show 1 ≤ 4; omega, by show pos + 4 ≤ _; omega, fun hb => ?_, fun _ j hj => ?_⟩
    · rw [lit _ (by omega)] at hb; cases hb
    · have hj : j < 4 := hj
      apply big
      rcases (by omega : j = 0 ∨ j = 1 ∨ j = 2 ∨ j = 3) with rfl | rfl | rfl | rfl
      · rw [Nat.add_zero]; omega
      · omega
      · omega
      · omega
  · by_cases h0 : (l.getD pos 0).toNat < 128
    · rw [Lib.decodeN_ascii _ _ _ _ _ h0] at e
      have := congrArg Prod.fst e
      simp only at this
      omega
    · rw [e]
      refine ⟨Nat.le_refl _, by show pos + 1 ≤ _; omega, fun hb => absurd hb (by rw [lit _ (by decide)]; simp), fun _ j hj => ?_⟩
      obtain rfl : j = 0 := by have : j < 1 := hj; omega
      rw [Nat.add_zero]; exact big _ (by omega)

/-- the word in hand -/
def inHand (s : ByteArray) (pos : Nat) : Option Nat → Str
  | none => []
  | some a => (s.data.toList.drop a).take (pos - a)
def pieces (s : ByteArray) (acc : List (Nat × Nat)) : List Str := acc.map fun x => (s.extract x.1 x.2).data.toList
theorem ext_list (s : ByteArray) (a b : Nat) : (s.extract a b).data.toList = (s.data.toList.drop a).take (b - a) := by
  have := Lib.extract_toList s a b
  rw [Lib.toList_data] at this
  exact this
theorem spans_words (s : ByteArray) : ∀ (f pos : Nat) (st : Option Nat) (acc : List (Nat × Nat)), s.size - pos ≤ f → pos ≤ s.size → (∀ a, st = some a → a < pos) →
    pieces s (Lib.closeSpans s (Lib.spansFromP blR s f pos st acc)) = pieces s acc ++ wgo (inHand s pos st) (s.data.toList.drop pos) := by
  have hl := size_list s
  have fin : ∀ (pos : Nat) (st : Option Nat) (acc : List (Nat × Nat)), pos = s.size → (∀ a, st = some a → a < pos) → pieces s (Lib.closeSpans s (acc, st)) = pieces s acc ++ wgo (inHand s pos st) (s.data.toList.drop pos) := by
    intro pos st acc hp hst
    rw [hp, List.drop_of_length_le (by omega)]
    cases st with
    | none => simp [Lib.closeSpans, inHand, wgo]
    | some a =>
      have ha := hst a rfl
      have hne : (s.data.toList.drop a).take (s.size - a) ≠ [] := by
        intro e; have := congrArg List.length e; rw [List.length_take, List.length_drop] at this; simp at this; omega
      rw [show inHand s s.size (some a) = (s.data.toList.drop a).take (s.size - a) from rfl, wgo_end hne]
      simp only [Lib.closeSpans, pieces, List.map_append, List.map_cons, List.map_nil, ext_list]
  intro f
  induction f with
  | zero =>
    intro pos st acc hf hp hst
    rw [Lib.spansFromP]
    exact fin pos st acc (by omega) hst
  | succ f ih =>
    intro pos st acc hf hp hst
    by_cases h : pos < s.size
    · obtain ⟨d1, d2, d3, d4⟩ := dec_step s pos h
      unfold Lib.spansFromP
      rw [if_pos h]
      generalize (Utf8.decode s pos).2 = K at *
      generalize (Utf8.decode s pos).1 = R at *
      cases hR : blR R with
      | true =>
        obtain ⟨rfl, hb⟩ := d3 hR
        have e0 : s.data.toList.drop pos = s.data.toList.getD pos 0 :: s.data.toList.drop (pos + 1) := by
          rw [List.drop_eq_getElem_cons (by omega), List.getD, List.getElem?_eq_getElem (by omega)]; rfl
        simp only [if_true]
        cases st with
        | none =>
          simp only
          rw [ih (pos + 1) none acc (by omega) d2 (fun a h => by cases h), e0]
          rw [show inHand s pos none = [] from rfl, wgo_skip hb]
          rfl
        | some a =>
          have ha := hst a rfl
          simp only
          rw [ih (pos + 1) none _ (by omega) d2 (fun a h => by cases h), e0]
          have hne : (s.data.toList.drop a).take (pos - a) ≠ [] := by
            intro e; have := congrArg List.length e; rw [List.length_take, List.length_drop] at this; simp at this; omega
          rw [show inHand s pos (some a) = (s.data.toList.drop a).take (pos - a) from rfl, wgo_cut hne hb]
          simp only [inHand, pieces, List.map_append, List.map_cons, List.map_nil, ext_list, List.append_assoc, List.cons_append, List.nil_append]
      | false =>
        have nb := d4 hR
        have e0 : s.data.toList.drop pos = (s.data.toList.drop pos).take K ++ s.data.toList.drop (pos + K) := by
          rw [← List.drop_drop, List.take_append_drop]
        have hx : ∀ c ∈ (s.data.toList.drop pos).take K, bl c = false := by
          intro c hc
          obtain ⟨j, hj, rfl⟩ := List.mem_iff_getElem.1 hc
          rw [List.length_take, List.length_drop] at hj
          have := nb j (by omega)
          rw [List.getD, List.getElem?_eq_getElem (by omega)] at this
          simpa using this
        simp only [Bool.false_eq_true, if_false]
        cases st with
        | none =>
          simp only
          rw [ih (pos + K) (some pos) acc (by omega) d2 (fun a h => by cases h; omega), e0, wgo_nb _ _ _ hx]
          congr 2
          simp only [inHand, List.nil_append]
          congr 1
          omega
        | some a =>
          have ha := hst a rfl
          simp only
          rw [ih (pos + K) (some a) acc (by omega) d2 (fun b h => by cases h; omega), e0, wgo_nb _ _ _ hx]
          congr 2
          simp only [inHand]
          have e1 : s.data.toList.drop pos = (s.data.toList.drop a).drop (pos - a) := by rw [List.drop_drop]; congr 1; omega
          rw [e1, ← List.take_add]
          congr 1
          omega
    · unfold Lib.spansFromP
      rw [if_neg h]
      exact fin pos st acc (by omega) hst
theorem fields_words (s : ByteArray) : (Lib.goFieldsP blR s).map (·.data.toList) = words s.data.toList := by
  have := spans_words s s.size 0 none [] (by omega) (by omega) (fun a h => by cases h)
  unfold Lib.goFieldsP Lib.spansOfP
  rw [List.map_map]
  exact this
end Go.Proofs.YtebjofffijnihaaGreatDoor
namespace Go.Proofs.YtebjofffijnihaaGreatDoor
set_option maxRecDepth 100000
open Go.ChangeShapes Go.WideShapes Go.ChangeAt Go.RowKit

theorem bang_at (s : ByteArray) (j : Nat) (hj : j < s.size) : (s.data[j]!).toNat = byteAt s j := by
  rw [getElem!_pos s.data j hj]; exact byteAt_get s j hj


/-- a valid rune -/
def Rn (r : Int) : Prop := 0 ≤ r ∧ r ≤ 1114111 ∧ (r < 55296 ∨ 57344 ≤ r)
theorem Rn.valid {r : Int} (h : Rn r) : Utf8.valid r = true := by
  obtain ⟨h0, h1, h2⟩ := h
  unfold Utf8.valid
  simp only [Bool.and_eq_true, Bool.or_eq_true, decide_eq_true_eq]
  omega

theorem get_at (s : ByteArray) (i : Nat) (h : i < s.size) : (s.get! i).toNat = byteAt s i := by
  have : s.get! i = s.data[i]! := rfl
  rw [this, bang_at s i h]
/-- what a range over a string hands out -/
theorem decode_cases (s : ByteArray) (i : Nat) (h : i < s.size) :
    1 ≤ (Utf8.decode s i).2 ∧ ((byteAt s i < 128 ∧ (Utf8.decode s i).1 = byteAt s i) ∨ (128 ≤ (Utf8.decode s i).1 ∧ Rn ((Utf8.decode s i).1 : Int))) := by
  rw [Lib.decode_at, get_at s i h]
  generalize byteAt s i = b0
  generalize (s.get! (i + 1)).toNat = b1
  generalize (s.get! (i + 2)).toNat = b2
  generalize (s.get! (i + 3)).toNat = b3
  generalize s.size - i = n
  unfold Lib.decodeN Rn
  repeat' split
  all_goals refine ⟨by omega, ?_⟩
  · left; exact ⟨by assumption, rfl⟩
  all_goals right; refine ⟨by omega, ?_⟩; refine ⟨by omega, ?_, ?_⟩ <;> omega

theorem validRune_any (r : Int) (h : Rn r) (w : World) : Calls Tryz.prog 157 #[.int .i32 r] w fun e w' => e = .returned (.bool true) ∧ w' = w := by
  obtain ⟨h0, h1, h2⟩ := h
  by_cases h3 : r < 55296
  · clear h2
    go_enter Tryz.func157, Tryz.ntmps157
    go_wp2
    go_ret
    exact ⟨rfl, rfl⟩
  · have h4 : 57343 < r := by omega
    clear h2
    go_enter Tryz.func157, Tryz.ntmps157
    go_wp2
    go_ret
    exact ⟨rfl, rfl⟩

theorem idx2 : ∀ n : Fin 128, n.val ≠ 32 → n.val ≠ 9 → Lib.indexByte [32, 9] ((n.val : Int).toNat.toUInt8) = -1 := by decide +kernel

set_option maxRecDepth 100000 in
set_option maxHeartbeats 2000000 in
theorem idxRune_ascii (r : Nat) (h : r < 128) (h1 : r ≠ 32) (h2 : r ≠ 9) (w : World) :
    Calls Tryz.prog 123 #[.string (ByteArray.mk #[32, 9]), .int .i32 r] w fun e w' => e = .returned (.int .i64 (-1)) ∧ w' = w := by
  have HE : Hid (Lib.indexByte (ByteArray.mk #[32, 9]).data.toList ((r : Int).toNat.toUInt8) = -1) := idx2 ⟨r, h⟩ h1 h2
  clear h1 h2
  have h3 : (r : Int) < 128 := by omega
  go_enter Tryz.func123, Tryz.ntmps123
  go_wp2_with fail
  refine (idxByte_any _ _ _).mono ?_
  rw [HE.out]
  rintro e w' ⟨rfl, rfl⟩
  go_wp2
  go_ret
  exact ⟨rfl, rfl⟩

set_option maxRecDepth 100000 in
set_option maxHeartbeats 4000000 in
theorem idxRune_err (w : World) :
    Calls Tryz.prog 123 #[.string (ByteArray.mk #[32, 9]), .int .i32 65533] w fun e w' => e = .returned (.int .i64 (-1)) ∧ Below w.heap.size w w' := by
  have n0 := fun ty => run_next_ascii (P := Tryz.prog) w (ByteArray.mk #[32, 9]) 0 ty (by decide) (by decide)
  have n1 := fun ty => run_next_ascii (P := Tryz.prog) w (ByteArray.mk #[32, 9]) 1 ty (by decide) (by decide)
  have n2 := fun ty => run_next_end (P := Tryz.prog) w (ByteArray.mk #[32, 9]) 2 ty (by decide)
  go_enter Tryz.func123, Tryz.ntmps123
  go_wp2_with fail
  go_loopg [5, 6] 2 (fun g _ _ wr => ∃ k : Nat, k + g = 2 ∧ wr = w.iter (ByteArray.mk #[32, 9]) k)
  case atStart => exact ⟨0, rfl, rfl⟩
  case round =>
    obtain ⟨k, hk, rfl⟩ := hrel
    match gk, k, hk with
    | 0, 2, _ =>
      go_wp2
      go_ret
      exact ⟨rfl, (Below.refl _ w).alloc (Nat.le_refl _) _⟩
    | 1, 1, _ =>
      go_wp2
      go_roundg 0
      case measure => omega
      case rel => exact ⟨2, rfl, rfl⟩
    | 2, 0, _ =>
      go_wp2
      go_roundg 1
      case measure => omega
      case rel => exact ⟨1, rfl, rfl⟩

theorem idx_empty (c : UInt8) : Lib.indexByte ByteArray.empty.data.toList c = -1 := rfl
set_option maxRecDepth 100000 in
set_option maxHeartbeats 4000000 in
theorem idxRune_high (ch : ByteArray) (hch : ch.size = 2) (hc1 : ∀ h : 1 < ch.size, (ch[1]'h).toNat = 9) (r : Int) (h : Rn r) (h128 : 128 ≤ r) (hne : r ≠ 65533) (w : World) :
    Calls Tryz.prog 123 #[.string ch, .int .i32 r] w fun e w' => e = .returned (.int .i64 (-1)) ∧ Below w.heap.size w w' := by
  have HR := Lib.hid h
  obtain ⟨f1, f2, f3⟩ := encode_facts r h.valid h128
  have t0 : (0 : Int) ≤ r := by omega
  have t1 : ¬ r < 128 := by omega
  have t2 : (r == 65533) = false := by rw [beq_eq_false_iff_ne]; exact hne
  clear h hne h128
  have hc := hc1 (by omega)
  clear hc1
  go_enter Tryz.func123, Tryz.ntmps123
  go_wp2_with fail
  refine (validRune_any r HR.out _).mono ?_
  rintro e w' ⟨rfl, rfl⟩
  by_cases h2 : (Utf8.encode r).size = 2
  · obtain ⟨y, hy, hb⟩ : ∃ y : Nat, 128 ≤ y ∧ ∀ h : 1 < (Utf8.encode r).size, ((Utf8.encode r)[1]'h).toNat = y := by
      have h1 : 1 < (Utf8.encode r).size := by omega
      refine ⟨((Utf8.encode r)[1]'h1).toNat, ?_, fun _ => rfl⟩
      have := f3 (by omega)
      simpa only [h2] using this
    have h1 : 1 < (Utf8.encode r).size := by omega
    have hb1 := hb h1
    have tt : ((9 : Int) != (y : Int)) = true := by rw [bne_iff_ne]; omega
    clear f3 hb hy
    go_wp2_with fail
    go_step3
    go_wp2_with fail
    refine wp_loop_rounds 1 ?_
    rw [rounds_succ]
    go_wp2_with fail
    go_step3
    go_wp2_with fail
    go_quiet (fail)
    go_wp2_with fail
    have HB : Hid (Below w'.heap.size w' (w'.drewN nq)) := below_drewN (Below.refl _ _) nq
    generalize w'.drewN nq = wq at HB ⊢
    go_quiet (first | (go_at_call 82; exact Calls.quiet_of_same (idxByte_any _ _ _)))
    rw [idx_empty]
    go_wp2_with fail
    rw [Exit.noGoto_ret]
    simp only [Exit.inBlock, Exit.then]
    rw [Exit.noGoto_ret]
    simp only [Exit.inBlock]
    go_ret
    exact ⟨rfl, below_drewN HB.out _⟩
  · have h3 : 3 ≤ (Utf8.encode r).size := by omega
    clear h2 f3
    go_wp2_with fail
    go_step3
    go_wp2_with fail
    refine wp_loop_rounds 1 ?_
    rw [rounds_succ]
    go_wp2_with fail
    rw [Exit.noGoto_ret]
    simp only [Exit.inBlock]
    go_ret
    exact ⟨rfl, Below.refl _ _⟩

/-- IndexRune in "./" of a rune that is neither -/
theorem idxRune_none (r : Nat) (h : Rn (r : Int)) (h1 : r ≠ 32) (h2 : r ≠ 9) (w : World) :
    Calls Tryz.prog 123 #[.string (ByteArray.mk #[32, 9]), .int .i32 r] w fun e w' => e = .returned (.int .i64 (-1)) ∧ Below w.heap.size w w' := by
  by_cases h3 : r < 128
  · exact (idxRune_ascii r h3 h1 h2 w).mono fun e w' k => ⟨k.1, k.2 ▸ Below.refl _ _⟩
  · by_cases h4 : r = 65533
    · subst h4; exact idxRune_err w
    · exact idxRune_high (ByteArray.mk #[32, 9]) rfl (fun _ => rfl) r h (by omega) (by omega) w

theorem useSet_any (n : Int) (w : World) : Calls Tryz.prog 124 #[.int .i64 n] w fun e w' => e = .returned (.bool (decide (8 < n))) ∧ w' = w := by
  go_enter Tryz.func124, Tryz.ntmps124
  go_wp2
  go_ret
  exact ⟨rfl, rfl⟩

theorem byte_rn {b : Nat} (h : b < 128) : Rn (b : Int) := ⟨by omega, by omega, .inl (by omega)⟩

set_option maxRecDepth 100000 in
set_option maxHeartbeats 4000000 in
/-- a short string: rune by rune -/
theorem anyShort (s : ByteArray) (hs : s.size ≤ 8) (hno : ∀ j, j < s.size → byteAt s j ≠ 32 ∧ byteAt s j ≠ 9) (w : World) :
    Calls Tryz.prog 98 #[.string s, .string (ByteArray.mk #[32, 9])] w fun e w' => e = .returned (.int .i64 (-1)) ∧ Below w.heap.size w w' := by
  have HN := Lib.hid hno; clear hno
  have h8 : decide ((8 : Int) < (s.size : Int)) = false := decide_eq_false (by omega)
  go_enter Tryz.func98, Tryz.ntmps98
  go_wp2_with fail
  refine (useSet_any _ _).mono ?_
  rw [h8]
  rintro e w' ⟨rfl, rfl⟩
  go_wp2_with fail
  go_loopg [9, 10] s.size (fun g _ _ wx => ∃ i : Nat, s.size ≤ i + g ∧ wx.heap[w'.heap.size]? = some (.stringIter s i) ∧ Below w'.heap.size w' wx)
  case atStart => exact ⟨0, by omega, World.iter_heap w' s 0, (Below.refl _ w').alloc (Nat.le_refl _) _⟩
  case round =>
    obtain ⟨i, hi, hit, hb⟩ := hrel
    have HB := Lib.hid hb; clear hb
    by_cases hlt : i < s.size
    · obtain ⟨d1, d2⟩ := decode_cases s i hlt
      have hnx := fun ty => Lib.run_next_any_at (P := Tryz.prog) wr w'.heap.size s i ty hit hlt
      have HI := Lib.hid hit; clear hit
      have D2 : Hid (Rn ((Utf8.decode s i).1 : Int) ∧ (Utf8.decode s i).1 ≠ 32 ∧ (Utf8.decode s i).1 ≠ 9) := by
        rcases d2 with ⟨h1, h2⟩ | ⟨h1, h2⟩
        · have := HN.out i hlt
          show _ ∧ _
          rw [h2]; exact ⟨byte_rn h1, this.1, this.2⟩
        · exact ⟨h2, by omega, by omega⟩
      have D1 := Lib.hid d1
      clear d1 d2
      generalize (Utf8.decode s i).1 = r at hnx D2
      generalize (Utf8.decode s i).2 = n at hnx D1
      cases gk with
      | zero => omega
      | succ g =>
        go_wp2_with fail
        refine (idxRune_none r D2.out.1 D2.out.2.1 D2.out.2.2 _).mono ?_
        rintro e w2 ⟨rfl, hb⟩
        have HI2 : Hid (w2.heap[w'.heap.size]? = some (.stringIter s (i + n))) := by
          show _ = _
          have h1 := Lib.iterAt_heap wr w'.heap.size s i (i + n) HI.out
          have h2 : w'.heap.size < (wr.iterAt w'.heap.size s (i + n)).heap.size := (Array.getElem?_eq_some_iff.1 h1).1
          rw [hb.block _ h2]; exact h1
        have HB2 : Hid (Below w'.heap.size w' w2) := (Lib.below_iterAt HB.out (Nat.le_refl _) s (i + n)).trans (hb.mono (by rw [Lib.iterAt_size]; exact HB.out.size))
        clear hb hnx HI
        go_wp2
        go_roundg g
        case measure => omega
        case rel => exact ⟨i + n, by have := D1.out; omega, HI2.out, HB2.out⟩
    · have hnx := fun ty => Lib.run_next_end_at (P := Tryz.prog) wr w'.heap.size s i ty hit hlt
      clear hit
      go_wp2
      go_ret
      exact ⟨rfl, HB.out⟩

theorem info116 : (Tryz.prog.info? 175).map (fun i => (i.zero, i.size)) = some (some (.agg (Array.replicate 256 (.bool false))), 256) := by kernel_rfl
theorem zc116 : Tryz.zeroCells175.size = 256 := by kernel_rfl
theorem asc2 : ∀ (j : Nat) b, (ByteArray.mk #[32, 9]).data.toList[j]? = some b → b.toNat < 128
  | 0, b, h => by cases h; decide
  | 1, b, h => by cases h; decide
  | (_ + 2), b, h => by cases h
theorem has2 (x : UInt8) (h1 : x.toNat ≠ 32) (h2 : x.toNat ≠ 9) : (ByteArray.mk #[32, 9]).data.toList.contains x = false := by
  have e1 : x ≠ 32 := fun e => h1 (by rw [e]; rfl)
  have e2 : x ≠ 9 := fun e => h2 (by rw [e]; rfl)
  show List.contains [32, 9] x = false
  simp [e1, e2]

set_option maxRecDepth 1000000 in
set_option maxHeartbeats 8000000 in
/-- a long string: byte by byte -/
theorem anyLong (s : ByteArray) (hs : 8 < s.size) (hbig : s.size < 4611686018427387904) (hno : ∀ j, j < s.size → byteAt s j ≠ 32 ∧ byteAt s j ≠ 9) (w : World) :
    Calls Tryz.prog 98 #[.string s, .string (ByteArray.mk #[32, 9])] w fun e w' => e = .returned (.int .i64 (-1)) ∧ Below w.heap.size w w' := by
  have HN := Lib.hid hno; clear hno
  have h8 : decide ((8 : Int) < (s.size : Int)) = true := decide_eq_true (by omega)
  have hM := Any.strings_makeASCIISet Tryz.lays227 (zero_of_info info116).1 (zero_of_info info116).2 (ByteArray.mk #[32, 9]) w (by decide) asc2
  have hM' : Calls Tryz.prog 125 #[.string (ByteArray.mk #[32, 9])] w fun e w' => e = .returned (.tuple #[.agg (Lib.setCells (ByteArray.mk #[32, 9]).data.toList), .bool true]) ∧ w' = w.alloc (.cells (Lib.setCells (ByteArray.mk #[32, 9]).data.toList) 175) := hM
  clear hM
  have HS := Lib.setCells_size (ByteArray.mk #[32, 9]).data.toList
  have HA : Hid (∀ x : UInt8, (Lib.setCells (ByteArray.mk #[32, 9]).data.toList)[x.toNat]? = some (.bool ((ByteArray.mk #[32, 9]).data.toList.contains x))) := Lib.setCells_at _
  have HO := Lib.setCells_one (ByteArray.mk #[32, 9]).data.toList
  generalize Lib.setCells (ByteArray.mk #[32, 9]).data.toList = C at *
  have hsc : (storeCells ⟨w.heap.size + 1, 0, none⟩ C.toList 0).run Tryz.prog ((w.alloc (.cells C 175)).alloc (.cells Tryz.zeroCells175 175)) = .ok () ((w.alloc (.cells C 175)).alloc (.cells C 175)) := by
    have := run_storeCells_new (P := Tryz.prog) (w.alloc (.cells C 175)) 175 Tryz.zeroCells175 C (by rw [HS]; exact (zero_of_info info116).2) (by rw [HS]; exact zc116) HO
    simpa using this
  have HC : Hid (∀ x : UInt8, x.toNat ≠ 32 → x.toNat ≠ 9 → ((w.alloc (.cells C 175)).alloc (.cells C 175)).cell? ⟨w.heap.size + 1, x.toNat, none⟩ = some (.bool false)) := fun x h1 h2 => by
    rw [World.cell?_alloc_at _ _ _ _ (by simp), HA.out, has2 x h1 h2]
  clear HA
  go_enter Tryz.func98, Tryz.ntmps98
  go_wp2_with fail
  refine (useSet_any _ _).mono ?_
  rw [h8]
  rintro e w' ⟨rfl, rfl⟩
  go_wp2_with fail
  refine hM'.mono ?_
  rintro e w2 ⟨rfl, rfl⟩
  go_wp2_with fail
  have HB : Hid (Below w'.heap.size w' ((w'.alloc (.cells C 175)).alloc (.cells C 175))) := ((Below.refl _ w').alloc (Nat.le_refl _) _).alloc (by simp) _
  clear hM' hsc HO HS
  generalize (w'.alloc (.cells C 175)).alloc (.cells C 175) = wz at HC HB ⊢
  go_loopw [8] (fun v wr => ∃ i : Nat, i ≤ s.size ∧ v = .int .i64 (i : Int) ∧ wr = wz) (fun v _ => s.size - (intOf v).toNat)
  case atStart => exact ⟨0, by omega, rfl, rfl⟩
  case round =>
    obtain ⟨i, hi, rfl, rfl⟩ := hrel
    by_cases hlt : i < s.size
    · have hb := byteAt_get s i hlt
      have hn := HN.out i hlt
      rw [← hb] at hn
      have c1 := HC.out (s[i]'hlt) hn.1 hn.2
      clear hn hb
      go_wp2_with fail
      have hH := Any.asciiSet_contains Tryz.lays228 (w'.heap.size + 1) (s[i]'hlt) false wr c1
      refine Calls.mono (show Calls Tryz.prog 126 #[.pointer (some ⟨w'.heap.size + 1, 0, none⟩), .int .u8 ((s[i]'hlt).toNat : Int)] wr _ from hH) ?_
      rintro e w3 ⟨rfl, rfl⟩
      go_wp2
      go_roundw
      case rel => exact ⟨i + 1, by omega, by go_num, trivial⟩
      case measure => simp [intOf]; omega
    · obtain rfl : i = s.size := by omega
      go_wp2
      go_ret
      exact ⟨rfl, HB.out⟩

theorem containsAny_none (s : ByteArray) (hbig : s.size < 4611686018427387904) (hno : ∀ j, j < s.size → byteAt s j ≠ 32 ∧ byteAt s j ≠ 9) (w : World) :
    Calls Tryz.prog 77 #[.string s, .string (ByteArray.mk #[32, 9])] w fun e w' => e = .returned (.bool false) ∧ Below w.heap.size w w' := by
  have HN := Lib.hid hno; clear hno
  have HS := Lib.hid hbig; clear hbig
  have H : Hid (Calls Tryz.prog 98 #[.string s, .string (ByteArray.mk #[32, 9])] w fun e w' => e = .returned (.int .i64 (-1)) ∧ Below w.heap.size w w') := by
    show Calls _ _ _ _ _
    by_cases h : s.size ≤ 8
    · exact anyShort s h HN.out w
    · exact anyLong s (by omega) HS.out HN.out w
  go_enter Tryz.func77, Tryz.ntmps77
  go_wp2_with fail
  refine H.out.mono ?_
  rintro e w' ⟨rfl, hb⟩
  have HB := Lib.hid hb; clear hb
  go_wp2
  go_ret
  exact ⟨rfl, HB.out⟩
end Go.Proofs.YtebjofffijnihaaGreatDoor
namespace Go.Proofs.YtebjofffijnihaaGreatDoor
set_option maxRecDepth 100000
open Go.ChangeShapes Go.WideShapes Go.ChangeAt Go.RowKit

theorem beq_dec (x y : Str) : (x == y) = decide (x = y) := by
  by_cases h : x = y <;> simp [h]
theorem neS (P : Program) (T : TypeId) : NeqAt P T encStr (fun x y => decide (x = y)) :=
  ⟨fun x y w => by
    have : (binOp .neq T (.string (bs x)) (.string (bs y))).run P w = .ok (.bool (!((bs x).toList == (bs y).toList))) w := (NeqAt.string P T).1 (bs x) (bs y) w
    rw [bs_toList, bs_toList, beq_dec] at this
    exact this, fun op a b x y w => (NeqAt.string P T).2 op a b (bs x) (bs y) w⟩

theorem bang_getD (z : List Str) (k : Nat) (h : k < z.length) : z[k]! = z.getD k [] := by
  rw [getElem!_pos z k h, List.getD, List.getElem?_eq_getElem h]; rfl

theorem allEq_iff : ∀ (a b : List Str), Lib.allEq (fun x y => decide (x = y)) a b = decide (a = b)
  | [], [] => by simp [Lib.allEq]
  | [], _ :: _ => by simp [Lib.allEq]
  | _ :: _, [] => by simp [Lib.allEq]
  | x :: a, y :: b => by rw [Lib.allEq, allEq_iff a b]; by_cases h : x = y <;> by_cases k : a = b <;> simp [h, k]
theorem equal_len (a1 a2 : Option Addr) (n1 c1 n2 c2 : Nat) (w : World) (h : n1 ≠ n2) :
    Calls Tryz.prog 19 #[.slice a1 n1 c1, .slice a2 n2 c2] w fun e w' => e = .returned (.bool false) ∧ w' = w := by
  have t : ((n1 : Int) != (n2 : Int)) = true := by rw [bne_iff_ne]; omega
  clear h
  go_enter Tryz.func19, Tryz.ntmps19
  go_wp2
  go_ret
  exact ⟨rfl, rfl⟩
theorem equal_none (a b : Option Addr) (c1 c2 : Nat) (w : World) : Calls Tryz.prog 19 #[.slice a 0 c1, .slice b 0 c2] w fun e w' => e = .returned (.bool true) ∧ w' = w := by
  go_enter Tryz.func19, Tryz.ntmps19
  go_wp2_with fail
  go_rounds 1
  go_ret
  exact ⟨rfl, rfl⟩
theorem equal_of {w : World} {v1 v2 : Value} {z1 z2 : List Str} (h1 : SIn w v1 z1) (h2 : SIn w v2 z2) :
    Calls Tryz.prog 19 #[v1, v2] w fun e w' => e = .returned (.bool (decide (z1 = z2))) ∧ ∃ q, w' = w.drewN q := by
  have b1 := h1.bound
  have b2 := h2.bound
  by_cases hl : z1.length = z2.length
  · rcases h1.open with ⟨rfl, a, cap, rfl⟩ | ⟨hp, b, off, cap, rfl, _, _, hc⟩
    · have hz : z2 = [] := List.length_eq_zero_iff.1 hl.symm
      subst hz
      rcases h2.open with ⟨_, a', cap', rfl⟩ | ⟨hp, _⟩
      · exact (equal_none a a' cap cap' w).mono fun e w' k => ⟨k.1, 0, k.2⟩
      · exact absurd hp (Nat.not_lt_zero _)
    · rcases h2.open with ⟨rfl, _⟩ | ⟨hp2, b', off', cap', rfl, _, _, hc'⟩
      · rw [hl] at hp; exact absurd hp (Nat.not_lt_zero _)
      · have := AnyE.slices_Equal Tryz.laysSlE33_f19 encStr (fun x y => decide (x = y)) (neS _ _) b off z1.length cap b' off' z2.length cap' z1 z2 w (Nat.le_refl _) (Nat.le_refl _) (by omega) (by omega) (fun j hj => by rw [hc j hj, bang_getD z1 j hj]; rfl) (fun j hj => by rw [hc' j hj, bang_getD z2 j hj]; rfl)
        refine Calls.mono (show Calls Tryz.prog 19 _ _ _ from this) ?_
        rintro e w' ⟨rfl, q, rfl⟩
        exact ⟨ret_b (by rw [List.take_length, List.take_length]; exact allEq_iff z1 z2), q, rfl⟩
  · have e1 : decide (z1 = z2) = false := decide_eq_false (by rintro rfl; exact hl rfl)
    rw [e1]
    obtain ⟨a, c, rfl, _⟩ := h1
    obtain ⟨a', c', rfl, _⟩ := h2
    exact (equal_len a a' _ c _ c' w hl).mono fun e w' k => ⟨k.1, 0, k.2⟩


theorem pred_any (x : Nat) (w : World) : Calls Tryz.prog 154 #[.int .i32 (x : Int)] w fun e w' => e = .returned (.bool (blR x)) ∧ w' = w := by
  unfold blR
  by_cases h1 : x = 32
  · subst h1
    go_enter Tryz.func154, Tryz.ntmps154
    go_wp2
    go_ret
    exact ⟨rfl, rfl⟩
  · have d1 : ((x : Int) == 32) = false := by rw [beq_eq_false_iff_ne]; omega
    have e1 : (x == 32) = false := by rw [beq_eq_false_iff_ne]; exact h1
    have e2 : ((x : Int) == 9) = (x == 9) := by rw [Bool.eq_iff_iff, beq_iff_eq, beq_iff_eq]; omega
    rw [e1, Bool.false_or]
    clear h1 e1
    have E2 := Lib.hid e2; clear e2
    go_enter Tryz.func154, Tryz.ntmps154
    go_wp2
    go_ret
    exact ⟨ret_b E2.out, rfl⟩

theorem words_small (s : Str) (h : s.length ≤ 4294967296) : (words s).length ≤ 17592186044416 ∧ ∀ x ∈ words s, x.length ≤ 9223372036854775807 := by
  have h1 := words_bulk s
  have h2 := bulk_len (words s)
  refine ⟨by omega, fun x hx => ?_⟩
  have := bulk_in hx
  omega
theorem fields_any (S : ByteArray) (w : World) (hs : S.size ≤ 4294967296) :
    Calls Tryz.prog 153 #[.string S, .func (.func 154) #[] #[]] w fun e w' => ∃ v, e = .returned v ∧ SIn w' v (words S.data.toList) ∧ Below w.heap.size w w' := by
  have hp : PredAtRunes Tryz.prog 154 #[] blR w := fun W x _ _ => (pred_any x W).mono fun e w' ⟨h1, h2⟩ => ⟨h1, 0, h2⟩
  refine (Tryz.strings_FieldsFunc_runes 154 #[] (enters_of Tryz.func154 (by kernel_rfl) rfl) blR S w hs hp).mono ?_
  rintro e w' ⟨a, rfl, _, h2, h3⟩
  have hl : (Lib.goFieldsP blR S).length = (words S.data.toList).length := by rw [← fields_words, List.length_map]
  have hv : (Lib.goFieldsP blR S).map Value.string = (words S.data.toList).map encStr := by
    rw [← fields_words, List.map_map]
    apply List.map_congr_left
    intro x _
    rw [Function.comp, encStr_bs, bs_of]
  rw [hv, hl] at h2
  rw [hl]
  obtain ⟨q1, q2⟩ := words_small S.data.toList (by rw [size_list]; exact hs)
  exact ⟨_, rfl, SIn.own h2 q1 q2, h3⟩
theorem words_any (S : ByteArray) (w : World) (hs : S.size ≤ 4294967296) :
    Calls Tryz.prog 119 #[.string S] w fun e w' => ∃ v, e = .returned v ∧ SIn w' v (words S.data.toList) ∧ Below w.heap.size w w' := by
  have HC := Lib.hid (fields_any S w hs)
  go_enter Tryz.func119, Tryz.ntmps119
  go_wp2_with fail
  refine HC.out.mono ?_
  rintro e w' ⟨v, rfl, h1, h2⟩
  have H1 := Lib.hid h1; have H2 := Lib.hid h2; clear h1 h2
  go_wp2
  go_ret
  exact ⟨_, rfl, H1.out, H2.out⟩

theorem joinS_any {w : World} {v : Value} {z : List Str} (h : SIn w v z) (hb : bulk z ≤ 1099511627776) :
    Calls Tryz.prog 66 #[v, .string (ByteArray.mk #[32])] w fun e w' => e = .returned (.string (bs (Lib.join z [32]))) ∧ Below w.heap.size w w' := by
  have hlen := join_len z
  rcases h.open with ⟨rfl, a, cap, rfl⟩ | ⟨hpos, b, off, cap, rfl, hcap, hlt, hc⟩
  · refine (Tryz.strings_Join_none a cap ⟨#[32]⟩ w).mono ?_
    rintro e w' ⟨rfl, rfl⟩
    exact ⟨rfl, Below.refl _ _⟩
  · have hm : (z.map bs).map (·.data.toList) = z := by
      rw [List.map_map]
      exact (List.map_congr_left (fun x _ => bs_list x)).trans (List.map_id z)
    have hl : (z.map bs).length = z.length := List.length_map _
    have := Tryz.strings_Join b off cap (z.map bs) ⟨#[32]⟩ w (fun j x hj => by
      rw [List.getElem?_map] at hj
      rcases Nat.lt_or_ge j z.length with hj' | hj'
      · rw [List.getElem?_eq_getElem hj'] at hj
        have hx := hc j hj'
        rw [List.getD, List.getElem?_eq_getElem hj'] at hx
        simp at hj; subst hj; exact hx
      · rw [List.getElem?_eq_none hj'] at hj; cases hj) hlt (by have := h.bound; omega) (by omega) (by rw [hm]; exact Nat.le_trans hlen (by omega))
    rw [hm, hl] at this
    exact this

theorem alive_join : joinR [97, 10] = ([(1, [97])], 0) := by decide +kernel
end Go.Proofs.YtebjofffijnihaaGreatDoor
