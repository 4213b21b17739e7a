/-
  Plain facts on the words of a line: runs of bytes that are no blanks; the pieces that strings.FieldsFunc cuts are these. No condition.
-/
import Derived.Test.YtdencbkepiaigaaDoorLFn
import Derived.Test.YtdencbkepiaigaaDoorLIn
import Derived.Lib.FieldsP
import Derived.Lib.MapLaws
import Derived.Lib.TrimUEq
namespace Go.Proofs.YtdencbkepiaigaaDoor

/-- the words, the bytes 'word' in hand -/
def wgo (word : Str) : Str → List Str
  | [] => if word = [] then [] else [word]
  | c :: r => if bl c then (if word = [] then wgo [] r else word :: wgo [] r) else wgo (word ++ [c]) r
def words (s : Str) : List Str := wgo [] s
theorem wgo_end {word : Str} (h : word ≠ []) : wgo word [] = [word] := by rw [wgo, if_neg h]
theorem wgo_cut {word r : Str} {c : UInt8} (h : word ≠ []) (hb : bl c = true) : wgo word (c :: r) = word :: wgo [] r := by rw [wgo, if_pos hb, if_neg h]
theorem wgo_skip {r : Str} {c : UInt8} (hb : bl c = true) : wgo [] (c :: r) = wgo [] r := by rw [wgo, if_pos hb, if_pos rfl]
theorem wgo_nb : ∀ (x word r : Str), (∀ c ∈ x, bl c = false) → wgo word (x ++ r) = wgo (word ++ x) r
  | [], word, r, _ => by simp
  | c :: x, word, r, h => by
    rw [List.cons_append, wgo, h c (by simp)]
    simp only [Bool.false_eq_true, if_false]
    rw [wgo_nb x (word ++ [c]) r (fun d hd => h d (by simp [hd]))]
    simp
theorem wgo_ok : ∀ (s word : Str), (∀ c ∈ word, bl c = false) → ∀ x ∈ wgo word s, x ≠ [] ∧ ∀ c ∈ x, bl c = false
  | [], word, hw, x, hx => by
    rw [wgo] at hx
    split at hx
    · simp at hx
    · simp at hx; subst hx; exact ⟨by assumption, hw⟩
  | c :: r, word, hw, x, hx => by
    rw [wgo] at hx
    split at hx
    · split at hx
      · exact wgo_ok r [] (by simp) x hx
      · rcases List.mem_cons.1 hx with rfl | hx
        · exact ⟨by assumption, hw⟩
        · exact wgo_ok r [] (by simp) x hx
    · rename_i hc
      exact wgo_ok r (word ++ [c]) (fun d hd => by
        rcases List.mem_append.1 hd with h | h
        · exact hw d h
        · simp at h; subst h; simpa using hc) x hx
theorem words_ok (s : Str) : ∀ x ∈ words s, x ≠ [] ∧ ∀ c ∈ x, bl c = false := wgo_ok s [] (by simp)
theorem bulk_cons (x : Str) (r : List Str) : bulk (x :: r) = x.length + 1 + bulk r := by simp [bulk]
theorem wgo_bulk : ∀ (s word : Str), bulk (wgo word s) ≤ word.length + s.length + 1
  | [], word => by
    rw [wgo]; split
    · simp [bulk]
    · rw [bulk_cons]; simp [bulk]
  | c :: r, word => by
    have h1 := wgo_bulk r []
    have h2 := wgo_bulk r (word ++ [c])
    simp at h1 h2
    rw [wgo]; split
    · split
      · simp; omega
      · rw [bulk_cons]; simp; omega
    · simp; omega
theorem words_bulk (s : Str) : bulk (words s) ≤ s.length + 1 := by have := wgo_bulk s []; simp at this; exact this
theorem bulk_len (L : List Str) : L.length ≤ bulk L := by
  induction L with
  | nil => simp
  | cons x r ih => rw [bulk_cons]; simp; omega
theorem bulk_in {L : List Str} {x : Str} (h : x ∈ L) : x.length ≤ bulk L := by
  induction L with
  | nil => simp at h
  | cons y r ih =>
    rw [bulk_cons]
    rcases List.mem_cons.1 h with rfl | h
    · omega
    · have := ih h; omega
theorem join_len (L : List Str) : (Lib.join L [32]).length ≤ bulk L := by
  cases L with
  | nil => simp [Lib.join_nil]
  | cons x r =>
    rw [Lib.join_cons, bulk_cons]
    have : (Lib.joinTail [32] r).length = bulk r := by
      unfold Lib.joinTail bulk
      induction r with
      | nil => rfl
      | cons y t ih => simp at ih ⊢; omega
    simp; omega
/-- joined by spaces, the same words -/
theorem words_join {L : List Str} (h : ∀ x ∈ L, x ≠ [] ∧ ∀ c ∈ x, bl c = false) : words (Lib.join L [32]) = L := by
  cases L with
  | nil => rfl
  | cons x r =>
    have key : ∀ (r : List Str) (x : Str), x ≠ [] → (∀ y ∈ r, y ≠ [] ∧ ∀ c ∈ y, bl c = false) → wgo x (Lib.joinTail [32] r) = x :: r := by
      intro r
      induction r with
      | nil => intro x hx _; simp [Lib.joinTail, wgo, hx]
      | cons y t ih =>
        intro x hx hr
        have hy := hr y (by simp)
        have e : Lib.joinTail [32] (y :: t) = 32 :: (y ++ Lib.joinTail [32] t) := by simp [Lib.joinTail]
        rw [e, wgo, show bl 32 = true from rfl, if_pos rfl, if_neg hx, wgo_nb y [] _ hy.2, List.nil_append, ih y hy.1 (fun z hz => hr z (by simp [hz]))]
    have hx := h x (by simp)
    rw [Lib.join_cons, words, wgo_nb x [] _ hx.2, List.nil_append, key r x hx.1 (fun y hy => h y (by simp [hy]))]
theorem wgo_some {s word : Str} (h : word ≠ []) : wgo word s ≠ [] := by
  induction s generalizing word with
  | nil => simp [wgo, h]
  | cons c r ih =>
    rw [wgo]; split
    · simp
    · exact ih (by simp)
theorem words_nil (s : Str) : words s = [] ↔ ∀ c ∈ s, bl c = true := by
  unfold words
  induction s with
  | nil => simp [wgo]
  | cons c r ih =>
    rw [wgo]
    cases hc : bl c with
    | true => simp [ih, hc]
    | false =>
      simp only [Bool.false_eq_true, if_false, List.nil_append]
      constructor
      · intro h; exact absurd h (wgo_some (by simp))
      · intro h; have := h c (by simp); simp [hc] at this
theorem drop_nil (l : Str) : l.dropWhile bl = [] ↔ ∀ c ∈ l, bl c = true := by
  induction l with
  | nil => simp
  | cons c r ih =>
    rw [List.dropWhile_cons]
    cases hc : bl c with
    | true => simp [ih, hc]
    | false => simp [hc]
theorem trimr_nil (s : Str) : trimr s = [] ↔ ∀ c ∈ s, bl c = true := by
  unfold trimr
  rw [List.reverse_eq_nil_iff, drop_nil]
  simp
theorem mem_trimr {s : Str} {c : UInt8} (h : c ∈ trimr s) : c ∈ s := by
  unfold trimr at h
  rw [List.mem_reverse] at h
  have := (List.dropWhile_sublist bl).subset h
  simpa using this
theorem trimr_end {s : Str} (h : trimr s ≠ []) : ∃ c ∈ trimr s, bl c = false := by
  unfold trimr at h ⊢
  rw [Ne, List.reverse_eq_nil_iff] at h
  generalize s.reverse = l at *
  induction l with
  | nil => simp at h
  | cons c r ih =>
    rw [List.dropWhile_cons] at h ⊢
    cases hc : bl c with
    | true => simp only [hc, if_true] at h ⊢; exact ih h
    | false => exact ⟨c, by simp, hc⟩
theorem trim_nil (s : Str) : triml (trimr s) = [] ↔ words s = [] := by
  rw [words_nil, ← trimr_nil]
  constructor
  · intro h
    unfold triml at h
    rw [drop_nil] at h
    rcases Decidable.em (trimr s = []) with e | e
    · exact e
    · obtain ⟨c, hc, hb⟩ := trimr_end e
      rw [h c hc] at hb; cases hb
  · intro h; rw [h]; rfl

/-- a rune that is a blank -/
def blR (x : Nat) : Bool := x == 32 || x == 9
theorem bl_nat (c : UInt8) : bl c = blR c.toNat := by
  unfold bl blR
  have e : ∀ d : UInt8, (c == d) = (c.toNat == d.toNat) := fun d => by
    rw [Bool.eq_iff_iff, beq_iff_eq, beq_iff_eq]
    exact ⟨fun h => by rw [h], UInt8.toNat_inj.1⟩
  rw [e 32, e 9]; rfl
theorem dec_step (s : ByteArray) (pos : Nat) (h : pos < s.size) :
    1 ≤ (Utf8.decode s pos).2 ∧ pos + (Utf8.decode s pos).2 ≤ s.size ∧ (blR (Utf8.decode s pos).1 = true → (Utf8.decode s pos).2 = 1 ∧ bl (s.data.toList.getD pos 0) = true) ∧
      (blR (Utf8.decode s pos).1 = false → ∀ j, j < (Utf8.decode s pos).2 → bl (s.data.toList.getD (pos + j) 0) = false) := by
  have hl := size_list s
  have big : ∀ c : UInt8, 128 ≤ c.toNat → bl c = false := fun c hc => by rw [bl_nat]; unfold blR; simp; omega
  rw [Lib.decode_N, hl]
  generalize s.data.toList = l at *
  have lit : ∀ n : Nat, 128 ≤ n → blR n = false := fun n hn => by unfold blR; simp; omega
  rcases Lib.decodeN_shape (s.size - pos) (l.getD pos 0).toNat (l.getD (pos + 1) 0).toNat (l.getD (pos + 2) 0).toNat (l.getD (pos + 3) 0).toNat with ⟨h0, e⟩ | ⟨h0, h1, h2, h3, e⟩ | ⟨h0, h1, h2, h3, h4, h5, e⟩ | ⟨h0, h1, h2, h3, h4, h5, h6, e⟩ | e
  · rw [e]
    refine ⟨Nat.le_refl _, by show pos + 1 ≤ _; omega, fun hb => ⟨rfl, by rw [bl_nat]; exact hb⟩, fun hb j hj => ?_⟩
    obtain rfl : j = 0 := by have : j < 1 := hj; omega
    rw [Nat.add_zero, bl_nat]; exact hb
  · rw [e]
    refine ⟨by show 1 ≤ 2; omega, by show pos + 2 ≤ _; omega, fun hb => ?_, fun _ j hj => ?_⟩
    · rw [lit _ h3] at hb; cases hb
    · have hj : j < 2 := hj
      apply big
      rcases (by omega : j = 0 ∨ j = 1) with rfl | rfl
      · rw [Nat.add_zero]; omega
      · omega
  · rw [e]
    refine ⟨by show 1 ≤ 3; omega, by show pos + 3 ≤ _; omega, fun hb => ?_, fun _ j hj => ?_⟩
    · rw [lit _ (by omega)] at hb; cases hb
    · have hj : j < 3 := hj
      apply big
      rcases (by omega : j = 0 ∨ j = 1 ∨ j = 2) with rfl | rfl | rfl
      · rw [Nat.add_zero]; omega
      · omega
      · omega
  · rw [e]
    refine ⟨by show 1 ≤ 4; omega, by show pos + 4 ≤ _; omega, fun hb => ?_, fun _ j hj => ?_⟩
    · rw [lit _ (by omega)] at hb; cases hb
    · have hj : j < 4 := hj
      apply big
      rcases (by omega : j = 0 ∨ j = 1 ∨ j = 2 ∨ j = 3) with rfl | rfl | rfl | rfl
      · rw [Nat.add_zero]; omega
      · omega
      · omega
      · omega
  · by_cases h0 : (l.getD pos 0).toNat < 128
    · rw [Lib.decodeN_ascii _ _ _ _ _ h0] at e
      have := congrArg Prod.fst e
      simp only at this
      omega
    · rw [e]
      refine ⟨Nat.le_refl _, by show pos + 1 ≤ _; omega, fun hb => absurd hb (by rw [lit _ (by decide)]; simp), fun _ j hj => ?_⟩
      obtain rfl : j = 0 := by have : j < 1 := hj; omega
      rw [Nat.add_zero]; exact big _ (by omega)

/-- the word in hand -/
def inHand (s : ByteArray) (pos : Nat) : Option Nat → Str
  | none => []
  | some a => (s.data.toList.drop a).take (pos - a)
def pieces (s : ByteArray) (acc : List (Nat × Nat)) : List Str := acc.map fun x => (s.extract x.1 x.2).data.toList
theorem ext_list (s : ByteArray) (a b : Nat) : (s.extract a b).data.toList = (s.data.toList.drop a).take (b - a) := by
  have := Lib.extract_toList s a b
  rw [Lib.toList_data] at this
  exact this
theorem spans_words (s : ByteArray) : ∀ (f pos : Nat) (st : Option Nat) (acc : List (Nat × Nat)), s.size - pos ≤ f → pos ≤ s.size → (∀ a, st = some a → a < pos) →
    pieces s (Lib.closeSpans s (Lib.spansFromP blR s f pos st acc)) = pieces s acc ++ wgo (inHand s pos st) (s.data.toList.drop pos) := by
  have hl := size_list s
  have fin : ∀ (pos : Nat) (st : Option Nat) (acc : List (Nat × Nat)), pos = s.size → (∀ a, st = some a → a < pos) → pieces s (Lib.closeSpans s (acc, st)) = pieces s acc ++ wgo (inHand s pos st) (s.data.toList.drop pos) := by
    intro pos st acc hp hst
    rw [hp, List.drop_of_length_le (by omega)]
    cases st with
    | none => simp [Lib.closeSpans, inHand, wgo]
    | some a =>
      have ha := hst a rfl
      have hne : (s.data.toList.drop a).take (s.size - a) ≠ [] := by
        intro e; have := congrArg List.length e; rw [List.length_take, List.length_drop] at this; simp at this; omega
      rw [show inHand s s.size (some a) = (s.data.toList.drop a).take (s.size - a) from rfl, wgo_end hne]
      simp only [Lib.closeSpans, pieces, List.map_append, List.map_cons, List.map_nil, ext_list]
  intro f
  induction f with
  | zero =>
    intro pos st acc hf hp hst
    rw [Lib.spansFromP]
    exact fin pos st acc (by omega) hst
  | succ f ih =>
    intro pos st acc hf hp hst
    by_cases h : pos < s.size
    · obtain ⟨d1, d2, d3, d4⟩ := dec_step s pos h
      unfold Lib.spansFromP
      rw [if_pos h]
      generalize (Utf8.decode s pos).2 = K at *
      generalize (Utf8.decode s pos).1 = R at *
      cases hR : blR R with
      | true =>
        obtain ⟨rfl, hb⟩ := d3 hR
        have e0 : s.data.toList.drop pos = s.data.toList.getD pos 0 :: s.data.toList.drop (pos + 1) := by
          rw [List.drop_eq_getElem_cons (by omega), List.getD, List.getElem?_eq_getElem (by omega)]; rfl
        simp only [if_true]
        cases st with
        | none =>
          simp only
          rw [ih (pos + 1) none acc (by omega) d2 (fun a h => by cases h), e0]
          rw [show inHand s pos none = [] from rfl, wgo_skip hb]
          rfl
        | some a =>
          have ha := hst a rfl
          simp only
          rw [ih (pos + 1) none _ (by omega) d2 (fun a h => by cases h), e0]
          have hne : (s.data.toList.drop a).take (pos - a) ≠ [] := by
            intro e; have := congrArg List.length e; rw [List.length_take, List.length_drop] at this; simp at this; omega
          rw [show inHand s pos (some a) = (s.data.toList.drop a).take (pos - a) from rfl, wgo_cut hne hb]
          simp only [inHand, pieces, List.map_append, List.map_cons, List.map_nil, ext_list, List.append_assoc, List.cons_append, List.nil_append]
      | false =>
        have nb := d4 hR
        have e0 : s.data.toList.drop pos = (s.data.toList.drop pos).take K ++ s.data.toList.drop (pos + K) := by
          rw [← List.drop_drop, List.take_append_drop]
        have hx : ∀ c ∈ (s.data.toList.drop pos).take K, bl c = false := by
          intro c hc
          obtain ⟨j, hj, rfl⟩ := List.mem_iff_getElem.1 hc
          rw [List.length_take, List.length_drop] at hj
          have := nb j (by omega)
          rw [List.getD, List.getElem?_eq_getElem (by omega)] at this
          simpa using this
        simp only [Bool.false_eq_true, if_false]
        cases st with
        | none =>
          simp only
          rw [ih (pos + K) (some pos) acc (by omega) d2 (fun a h => by cases h; omega), e0, wgo_nb _ _ _ hx]
          congr 2
          simp only [inHand, List.nil_append]
          congr 1
          omega
        | some a =>
          have ha := hst a rfl
          simp only
          rw [ih (pos + K) (some a) acc (by omega) d2 (fun b h => by cases h; omega), e0, wgo_nb _ _ _ hx]
          congr 2
          simp only [inHand]
          have e1 : s.data.toList.drop pos = (s.data.toList.drop a).drop (pos - a) := by rw [List.drop_drop]; congr 1; omega
          rw [e1, ← List.take_add]
          congr 1
          omega
    · unfold Lib.spansFromP
      rw [if_neg h]
      exact fin pos st acc (by omega) hst
theorem fields_words (s : ByteArray) : (Lib.goFieldsP blR s).map (·.data.toList) = words s.data.toList := by
  have := spans_words s s.size 0 none [] (by omega) (by omega) (fun a h => by cases h)
  unfold Lib.goFieldsP Lib.spansOfP
  rw [List.map_map]
  exact this
end Go.Proofs.YtdencbkepiaigaaDoor
