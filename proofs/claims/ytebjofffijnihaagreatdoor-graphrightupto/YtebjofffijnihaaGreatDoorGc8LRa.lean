/-
  What the reference's blank, Shown, Trimmed, aside answer. Condition: the strings are shorter than 2^40 bytes.
  What package line's Split answers. Condition: the string is shorter than 2^40 bytes.
  Makefiles in plain words: the lines of a text behind its includes (rd), the texts' own faults. No condition.
  Plain facts on lines of two texts, one behind the other: where the first one's last line does not go on, the lines are both's. No condition.
  Plain facts on include lines: how they are read; a text that includes itself, directly or by others, is told as that; a line without includes stands for itself. No condition.
  Blocks of cells; package file's textsByName. Condition: the form's own.
  What package file's reader keeps: its block, the texts' map, the map of those that are being included, its lines; what a call of it leaves as it was. No condition.
-/
import Derived.Test.YtebjofffijnihaaGreatDoorGc7LJn
import Derived.Test.YtebjofffijnihaaGreatDoorGc6MRep
import Derived.Deep.RegionHeld3
import Derived.Test.YtebjofffijnihaaGreatDoorGc2MPl
import Derived.Test.YtebjofffijnihaaGreatDoorGc1Ls
import Derived.Maps.AppendAt
namespace Go.Proofs.YtebjofffijnihaaGreatDoor
set_option maxRecDepth 100000
open Go.ChangeShapes Go.WideShapes Go.ChangeAt Go.RowKit

/-- byte k -/
def bK (S : ByteArray) (k : Nat) : UInt8 := S.data.toList.getD k 0
theorem bK_get (S : ByteArray) (k : Nat) (h : k < S.size) : S[k].toNat = (bK S k).toNat := by
  rw [byteAt_get S k h]; rfl
theorem bK_ext (S : ByteArray) (k : Nat) (h : k < S.size) : S.extract k (k + 1) = bs [bK S k] := by
  have hl : k < S.data.toList.length := by rw [size_list]; exact h
  rw [← bs_of (S.extract k (k + 1))]
  congr 1
  have := Lib.extract_toList S k (k + 1)
  rw [Lib.toList_data] at this
  rw [this, List.drop_eq_getElem_cons hl, Nat.add_sub_cancel_left, List.take_succ_cons, List.take_zero]
  unfold bK
  rw [List.getD, List.getElem?_eq_getElem hl]; rfl
theorem bs_app (a b : Str) : bs a ++ bs b = bs (a ++ b) := by
  rw [← bs_of (bs a ++ bs b)]; congr 1
theorem take_bK (S : ByteArray) (k : Nat) (h : k < S.size) : S.data.toList.take (k + 1) = S.data.toList.take k ++ [bK S k] := by
  have hl : k < S.data.toList.length := by rw [size_list]; exact h
  rw [List.take_succ_eq_append_getElem hl]
  unfold bK
  rw [List.getD, List.getElem?_eq_getElem hl]; rfl
theorem drop_bK (S : ByteArray) (k : Nat) (h : k < S.size) : S.data.toList.drop k = bK S k :: S.data.toList.drop (k + 1) := by
  have hl : k < S.data.toList.length := by rw [size_list]; exact h
  rw [List.drop_eq_getElem_cons hl]
  unfold bK
  rw [List.getD, List.getElem?_eq_getElem hl]; rfl

theorem esc_one (c : UInt8) : esc [c] = if c = 35 then [92, 35] else [c] := by
  by_cases h : c = 35 <;> simp [esc, h]
theorem eq35 (c : UInt8) : ((c.toNat : Int) == 35) = decide (c = 35) := by
  rw [Bool.eq_iff_iff, beq_iff_eq, decide_eq_true_iff]
  exact ⟨fun h => UInt8.toNat_inj.1 (by show c.toNat = 35; omega), fun h => by rw [h]; rfl⟩
def strOf' : Value → Nat
  | .string b => b.size
  | _ => 0
theorem bs_cons_get (c : UInt8) (r : Str) (h : 0 < (bs (c :: r)).size) : (bs (c :: r))[0].toNat = c.toNat := rfl
theorem bs_tail (c : UInt8) (r : Str) : (bs (c :: r)).extract 1 (bs (c :: r)).size = bs r := by
  rw [← bs_of ((bs (c :: r)).extract 1 (bs (c :: r)).size)]
  congr 1
  have := Lib.extract_toList (bs (c :: r)) 1 (bs (c :: r)).size
  rw [Lib.toList_data] at this
  rw [this, bs_list, bs_size]
  simp
theorem bs_snoc_get (r : Str) (c : UInt8) (h : r.length < (bs (r ++ [c])).size) : (bs (r ++ [c]))[r.length].toNat = c.toNat := by
  rw [byteAt_get _ _ h]
  unfold byteAt
  rw [bs_list]
  simp
theorem bs_init (r : Str) (c : UInt8) : (bs (r ++ [c])).extract 0 r.length = bs r := by
  rw [bs_take, bs_list]; simp
theorem triml_cons (c : UInt8) (r : Str) : triml (c :: r) = if bl c then triml r else c :: r := by
  unfold triml; rw [List.dropWhile_cons]
theorem trimr_snoc (r : Str) (c : UInt8) : trimr (r ++ [c]) = if bl c then trimr r else r ++ [c] := by
  unfold trimr
  rw [List.reverse_append, List.reverse_singleton, List.singleton_append, List.dropWhile_cons]
  split <;> simp
theorem trim_swap : ∀ s : Str, trimr (triml s) = triml (trimr s)
  | [] => rfl
  | c :: r => by
    rw [triml_cons]
    cases hc : bl c with
    | true =>
      rw [if_pos rfl, trim_swap r]
      rcases List.eq_nil_or_concat r with rfl | ⟨q, d, rfl⟩
      · have : trimr [c] = [] := by simp [trimr, hc]
        rw [this]; rfl
      · rw [List.concat_eq_append, ← List.cons_append, trimr_snoc, trimr_snoc]
        cases hd : bl d with
        | true =>
          simp only [if_true]
          have ih := trim_swap (c :: q)
          rw [triml_cons, hc, if_pos rfl, trim_swap q] at ih
          exact ih
        | false =>
          simp only [Bool.false_eq_true, if_false]
          rw [List.cons_append, triml_cons, hc, if_pos rfl]
    | false =>
      simp only [Bool.false_eq_true, if_false]
      have key : ∀ q : Str, triml (trimr (c :: q)) = trimr (c :: q) := by
        intro q
        have : ∃ t, trimr (c :: q) = c :: t := by
          unfold trimr
          rw [List.reverse_cons, List.dropWhile_append]
          split
          · have : List.dropWhile bl [c] = [c] := by simp [hc]
            rw [this]; exact ⟨[], rfl⟩
          · rw [List.reverse_append]; exact ⟨_, rfl⟩
        obtain ⟨t, e⟩ := this
        rw [e, triml_cons, hc]; rfl
      exact (key r).symm
  termination_by s => s.length
  decreasing_by all_goals simp_all <;> omega

end Go.Proofs.YtebjofffijnihaaGreatDoor
namespace Go.Proofs.YtebjofffijnihaaGreatDoor
set_option maxRecDepth 100000
open Go.ChangeShapes Go.WideShapes Go.ChangeAt Go.RowKit

theorem idx_none : ∀ (s : Str) (c : UInt8), (∀ j, j < s.length → s.getD j 0 ≠ c) → Lib.indexByte s c = -1
  | [], _, _ => rfl
  | d :: r, c, h => by
    have h0 : d ≠ c := h 0 (by simp)
    have ih := idx_none r c (fun j hj => h (j + 1) (by simpa using hj))
    rw [Lib.indexByte, ih]; simp [h0]
theorem idx_some : ∀ (s : Str) (c : UInt8) (k : Nat), k < s.length → s.getD k 0 = c → (∀ j, j < k → s.getD j 0 ≠ c) → Lib.indexByte s c = (k : Int)
  | [], _, _, h, _, _ => by simp at h
  | d :: r, c, 0, _, hc, _ => by
    simp at hc; subst hc
    rw [Lib.indexByte]; simp
  | d :: r, c, k + 1, hk, hc, h => by
    have h0 : d ≠ c := h 0 (by omega)
    have ih := idx_some r c k (by simpa using hk) (by simpa using hc) (fun j hj => by simpa using h (j + 1) (by omega))
    rw [Lib.indexByte, ih]
    have : ((k : Int) == -1) = false := by rw [beq_eq_false_iff_ne]; omega
    simp [h0, this]
theorem u8_back (c : UInt8) : ((c.toNat : Int)).toNat.toUInt8 = c := by
  rw [Int.toNat_natCast]
  exact UInt8.toNat_inj.1 (by simp)
theorem split_no (S : ByteArray) (c : UInt8) (w : World) (h : ∀ j, j < S.size → bK S j ≠ c) :
    Calls Tryz.prog 89 #[.string S, .int .u8 (c.toNat : Int)] w fun e w' => e = .returned (.tuple #[.string S, .string (ByteArray.mk #[]), .bool false]) ∧ w' = w := by
  have H := Lib.hid (Tryz.strings_IndexByte S (c.toNat : Int) w)
  rw [u8_back, idx_none _ _ (fun j hj => h j (by rw [← size_list]; exact hj))] at H
  clear h
  go_enter Tryz.func89, Tryz.ntmps89
  go_wp2_with fail
  refine H.out.mono ?_
  rintro e w' ⟨rfl, rfl⟩
  go_wp2
  go_ret3
  exact ⟨rfl, rfl⟩
set_option maxHeartbeats 4000000 in
set_option maxRecDepth 100000 in
theorem split_at (S : ByteArray) (c : UInt8) (k : Nat) (w : World) (hs : S.size ≤ 1099511627776) (hk : k < S.size) (hc : bK S k = c) (h : ∀ j, j < k → bK S j ≠ c) :
    Calls Tryz.prog 89 #[.string S, .int .u8 (c.toNat : Int)] w fun e w' => e = .returned (.tuple #[.string (bs (triml (trimr (S.data.toList.take k)))), .string (bs (triml (trimr (S.data.toList.drop (k + 1))))), .bool true]) ∧ Below w.heap.size w w' := by
  have H := Lib.hid (Tryz.strings_IndexByte S (c.toNat : Int) w)
  rw [u8_back, idx_some _ _ k (by rw [size_list]; exact hk) hc h] at H
  have x1 := bs_take S k
  have x2 := bs_drop S (k + 1)
  have l1 : (S.data.toList.take k).length ≤ 1099511627776 := by rw [List.length_take, size_list]; omega
  have l2 : (S.data.toList.drop (k + 1)).length ≤ 1099511627776 := by rw [List.length_drop, size_list]; omega
  have TT : Hid (∀ (x : Str) W, x.length ≤ 1099511627776 → Calls Tryz.prog 115 #[.string (bs x), .string (ByteArray.mk #[32, 9])] W fun e w' => e = .returned (.string (bs (triml (trimr x)))) ∧ Below W.heap.size W w') := fun x W hx => trim_any _ W (by omega)
  generalize S.data.toList.take k = a at *
  generalize S.data.toList.drop (k + 1) = b at *
  have i1 : (k : Int) + 1 ≤ (S.size : Int) := by omega
  have i2 : ((k : Int) + 1).toNat = k + 1 := by omega
  have i3 : (0 : Int) ≤ (k : Int) := by omega
  have i4 : (k : Int) ≤ (S.size : Int) := by omega
  have i5 : (0 : Int) ≤ (k : Int) + 1 := by omega
  have i6 : IntKind.i64.wrap ((k : Int) + 1) = (k : Int) + 1 := by unfold IntKind.wrap; simp [IntKind.bits, IntKind.signed]; omega
  have L1 := Lib.hid l1; have L2 := Lib.hid l2
  clear hc h l1 l2
  go_enter Tryz.func89, Tryz.ntmps89
  go_wp2_with fail
  refine H.out.mono ?_
  rintro e w' ⟨rfl, rfl⟩
  go_wp2_with fail
  go_region_held3 (fun w' => True) (first | trivial) (first
    | (go_at_call_of 115 (Value.string (bs a)); refine (TT.out a _ L1.out).mono ?_; rintro e w1 ⟨rfl, q1⟩; have B1 := Lib.hid q1; clear q1)
    | (go_at_call_of 115 (Value.string (bs b)); refine (TT.out b _ L2.out).mono ?_; rintro e w2 ⟨rfl, q2⟩; have B2 := Lib.hid q2; clear q2))
  all_goals go_wp2
  all_goals go_ret3
  all_goals
    have b1 := (Below.drew (Below.refl w'.heap.size w')).trans B1.out
    exact ⟨rfl, b1.trans (B2.out.mono b1.size)⟩
end Go.Proofs.YtebjofffijnihaaGreatDoor
namespace Go.Proofs.YtebjofffijnihaaGreatDoor
set_option maxRecDepth 100000
set_option linter.unusedVariables false

def incW : Str := [105, 110, 99, 108, 117, 100, 101]
/-- does the line include? -/
def inc (x : Str) : Bool := (words x).head? == some incW
def wd1 (x : Str) : Str := (words x).getD 1 []
/-- how many texts are not being included -/
def un (T : List Mc) (op : List Str) : Nat := (T.filter fun p => !op.contains p.1).length
theorem un_lt {T : List Mc} {op : List Str} {n t : Str} (h : look T n = some t) (hc : op.contains n = false) : un T (n :: op) < un T op := by
  unfold un
  unfold look at h
  cases hf : T.find? fun m => m.1 == n with
  | none => rw [hf] at h; cases h
  | some m =>
    have hm := List.mem_of_find?_eq_some hf
    have hn : m.1 = n := by simpa using List.find?_some hf
    clear hf h
    have key : ∀ (T : List Mc), (T.filter fun p => !(n :: op).contains p.1).length ≤ (T.filter fun p => !op.contains p.1).length ∧ (m ∈ T → (T.filter fun p => !(n :: op).contains p.1).length < (T.filter fun p => !op.contains p.1).length) := by
      intro T
      induction T with
      | nil => exact ⟨Nat.le_refl _, fun h => by cases h⟩
      | cons p r ih =>
        obtain ⟨i1, i2⟩ := ih
        have e : (n :: op).contains p.1 = (p.1 == n || op.contains p.1) := by simp only [List.contains_cons]
        rw [List.filter_cons, List.filter_cons, e]
        by_cases hp : p.1 = n
        · have e1 : (p.1 == n) = true := by simpa using hp
          rw [e1, hp, hc]
          simp only [Bool.true_or, Bool.not_true, Bool.false_eq_true, if_false, Bool.not_false, if_true, List.length_cons]
          exact ⟨by omega, fun _ => by omega⟩
        · have e1 : (p.1 == n) = false := by simpa using hp
          rw [e1, Bool.false_or]
          have i3 : m ∈ p :: r → m ∈ r := fun h => by
            rcases List.mem_cons.1 h with rfl | h
            · exact absurd hn hp
            · exact h
          by_cases ho : op.contains p.1 = true
          · rw [ho]; simp only [Bool.not_true, Bool.false_eq_true, if_false]
            exact ⟨i1, fun h => i2 (i3 h)⟩
          · rw [Bool.not_eq_true] at ho
            rw [ho]; simp only [Bool.not_false, if_true, List.length_cons]
            exact ⟨by omega, fun h => by have := i2 (i3 h); omega⟩
    exact (key T).2 hm

/-- the error, the lines, how many were processed: of the lines l, while the texts op are being included -/
def rd (T : List Mc) (op : List Str) (n : Nat) : List Str → Int × List Str × Nat
  | [] => (0, [], n)
  | x :: r =>
    if 200 ≤ n then (2, [], 0)
    else if inc x = false then ((rd T op (n + 1) r).1, x :: (rd T op (n + 1) r).2.1, (rd T op (n + 1) r).2.2)
    else if (words x).length ≠ 2 then (3, [], 0)
    else match ht : look T (wd1 x) with
      | none => (5, [], 0)
      | some t =>
        if hc : op.contains (wd1 x) = true then (8, [], 0)
        else if (joinR t).2 ≠ 0 then ((joinR t).2, [], 0)
        else
          let a := rd T (wd1 x :: op) (n + 1) ((joinR t).1.map (·.2))
          if a.1 ≠ 0 then (a.1, [], 0)
          else ((rd T op a.2.2 r).1, a.2.1 ++ (rd T op a.2.2 r).2.1, (rd T op a.2.2 r).2.2)
  termination_by l => (un T op, l.length)
  decreasing_by
    all_goals first
      | (apply Prod.Lex.left; exact un_lt ht (by simpa using hc))
      | (apply Prod.Lex.right; simp)

/-- one text -/
def rdS (T : List Mc) (op : List Str) (n : Nat) (s : Str) : Int × List Str × Nat :=
  if (joinR s).2 ≠ 0 then ((joinR s).2, [], 0) else rd T op n ((joinR s).1.map (·.2))
/-- one include -/
def rdI (T : List Mc) (op : List Str) (n : Nat) (y : Str) : Int × List Str × Nat := match look T y with
  | none => (5, [], 0)
  | some t => if op.contains y = true then (8, [], 0) else rdS T (y :: op) n t
/-- one line -/
def rd1 (T : List Mc) (op : List Str) (n : Nat) (x : Str) : Int × List Str × Nat :=
  if 200 ≤ n then (2, [], 0) else if inc x = false then (0, [x], n + 1) else if (words x).length ≠ 2 then (3, [], 0) else rdI T op (n + 1) (wd1 x)
theorem rd_nil (T : List Mc) (op : List Str) (n : Nat) : rd T op n [] = (0, [], n) := by rw [rd]
/-- what follows a line -/
def catR (f : Nat → Int × List Str × Nat) (a : Int × List Str × Nat) : Int × List Str × Nat := if a.1 ≠ 0 then (a.1, [], 0) else ((f a.2.2).1, a.2.1 ++ (f a.2.2).2.1, (f a.2.2).2.2)
theorem rd_cons (T : List Mc) (op : List Str) (n : Nat) (x : Str) (r : List Str) : rd T op n (x :: r) = catR (fun m => rd T op m r) (rd1 T op n x) := by
  rw [rd]
  by_cases h1 : 200 ≤ n
  · have e : rd1 T op n x = (2, [], 0) := by unfold rd1; rw [if_pos h1]
    rw [e, if_pos h1]; rfl
  · by_cases h2 : inc x = false
    · have e : rd1 T op n x = (0, [x], n + 1) := by unfold rd1; rw [if_neg h1, if_pos h2]
      rw [e, if_neg h1, if_pos h2]; rfl
    · by_cases h3 : (words x).length ≠ 2
      · have e : rd1 T op n x = (3, [], 0) := by unfold rd1; rw [if_neg h1, if_neg h2, if_pos h3]
        rw [e, if_neg h1, if_neg h2, if_pos h3]; rfl
      · have e : rd1 T op n x = rdI T op (n + 1) (wd1 x) := by unfold rd1; rw [if_neg h1, if_neg h2, if_neg h3]
        rw [e, if_neg h1, if_neg h2, if_neg h3]
        split
        · rename_i ht
          have e : rdI T op (n + 1) (wd1 x) = (5, [], 0) := by unfold rdI; rw [ht]
          rw [e]; rfl
        · rename_i t ht
          by_cases hc : op.contains (wd1 x) = true
          · have e : rdI T op (n + 1) (wd1 x) = (8, [], 0) := by unfold rdI; rw [ht]; simp only []; rw [if_pos hc]
            rw [e, dif_pos hc]; rfl
          · have e : rdI T op (n + 1) (wd1 x) = rdS T (wd1 x :: op) (n + 1) t := by unfold rdI; rw [ht]; simp only []; rw [if_neg hc]
            rw [e, dif_neg hc]
            unfold rdS
            by_cases h4 : (joinR t).2 ≠ 0
            · rw [if_pos h4, if_pos h4]; unfold catR; rw [if_pos h4]
            · rw [if_neg h4, if_neg h4]; rfl
/-- the first fault of the texts -/
def txF (seen : List Str) : List Mc → Int
  | [] => 0
  | m :: r => if good m.1 = false then 3 else if seen.contains m.1 then 6 else txF (m.1 :: seen) r
/-- Lines' answer -/
def linesR (s : Str) (T : List Mc) : List Str × Int :=
  if 20 < T.length then ([], 2) else if txF [] T ≠ 0 then ([], txF [] T) else if (rdS T [] 0 s).1 ≠ 0 then ([], (rdS T [] 0 s).1) else ((rdS T [] 0 s).2.1, 0)
end Go.Proofs.YtebjofffijnihaaGreatDoor
namespace Go.Proofs.YtebjofffijnihaaGreatDoor
set_option maxRecDepth 100000

theorem triml_split (x : Str) : ∃ p, x = p ++ triml x ∧ ∀ c ∈ p, bl c = true := by
  unfold triml
  induction x with
  | nil => exact ⟨[], rfl, by simp⟩
  | cons c r ih =>
    cases hc : bl c with
    | false => exact ⟨[], by rw [List.dropWhile_cons]; simp [hc], by simp⟩
    | true =>
      obtain ⟨p, hp, hb⟩ := ih
      refine ⟨c :: p, ?_, ?_⟩
      · rw [List.dropWhile_cons]; simp only [hc, if_true, List.cons_append]; rw [← hp]
      · intro d hd
        rcases List.mem_cons.1 hd with rfl | hd
        · exact hc
        · exact hb d hd
theorem ends_triml (x : Str) : ends92 (triml x) = ends92 x := by
  obtain ⟨p, hp, hb⟩ := triml_split x
  by_cases h : triml x = []
  · rw [h] at hp ⊢
    rw [List.append_nil] at hp
    subst hp
    unfold ends92
    rw [List.getLast?_nil]
    cases hl : x.getLast? with
    | none => rfl
    | some c =>
      have := hb c (List.mem_of_getLast? hl)
      have hc : c ≠ 92 := by rintro rfl; exact absurd this (by decide)
      simp [hc]
  · have e : x.getLast? = (triml x).getLast? := by
      conv => lhs; rw [hp]
      rw [List.getLast?_append]
      cases hl : (triml x).getLast? with
      | none => rw [List.getLast?_eq_none_iff] at hl; exact absurd hl h
      | some c => rfl
    unfold ends92; rw [e]
/-- the last line does not go on -/
def Stops (A : List Str) : Prop := ∀ x, A.getLast? = some x → ends92 x = false
theorem Stops.tail {x y : Str} {r : List Str} (h : Stops (x :: y :: r)) : Stops (y :: r) := fun z hz => h z (by rw [List.getLast?_cons_cons]; exact hz)
theorem joinT_app : ∀ (A B : List Str), A ≠ [] → Stops A → joinT (A ++ B) = joinT A
  | [], _, h, _ => absurd rfl h
  | [x], B, _, hs => by
    have := hs x rfl
    simp only [List.cons_append, List.nil_append, joinT, ends_triml, this]
    simp
  | x :: y :: r, B, _, hs => by
    have ih := joinT_app (y :: r) B (by simp) hs.tail
    rw [List.cons_append, joinT, ih]
    rw [joinT.eq_2 x (y :: r)]
theorem joinH_app (A B : List Str) (h : A ≠ []) (hs : Stops A) : joinH (A ++ B) = joinH A := by
  match A, h, hs with
  | [x], _, hs =>
    have := hs x rfl
    simp [joinH, this]
  | x :: y :: r, _, hs =>
    have := joinT_app (y :: r) B (by simp) hs.tail
    rw [List.cons_append, joinH, this, joinH.eq_2 x (y :: r)]
theorem Stops.drop {A : List Str} (h : Stops A) (k : Nat) : Stops (A.drop k) := by
  intro x hx
  apply h
  rw [List.getLast?_drop] at hx
  split at hx
  · cases hx
  · exact hx
theorem lines_app : ∀ (k n : Nat) (A B : List Str), A.length ≤ k → Stops A → linesAt n (A ++ B) = linesAt n A ++ linesAt (n + A.length) B
  | k, n, [], B, _, _ => by simp [linesAt_nil]
  | 0, n, x :: r, B, hk, _ => by simp at hk
  | k + 1, n, x :: r, B, hk, hs => by
    have hj := joinH_app (x :: r) B (by simp) hs
    have hp := joinH_pos x r
    have hl := joinH_le (x :: r)
    rw [linesAt_cons n ((x :: r) ++ B) (by simp), linesAt_cons n (x :: r) (by simp), hj, List.drop_append_of_le_length hl,
      lines_app k (n + (joinH (x :: r)).2) ((x :: r).drop (joinH (x :: r)).2) B (by rw [List.length_drop]; simp at hk ⊢; omega) (hs.drop _), List.append_assoc]
    congr 3
    rw [List.length_drop]
    omega
def shift (n : Nat) (z : List Ln) : List Ln := z.map fun x => (x.1 + (n : Int), x.2)
theorem linesF_shift (m : Nat) : ∀ (f n : Nat) (L : List Str), linesF f (n + m) L = shift m (linesF f n L)
  | 0, _, _ => rfl
  | f + 1, n, L => by
    rw [linesF, linesF]
    split
    · rfl
    · have ih := linesF_shift m f (n + (joinH L).2) (L.drop (joinH L).2)
      rw [Nat.add_right_comm] at ih
      rw [ih]
      unfold shift
      rw [List.map_append]
      congr 1
      split
      · rfl
      · simp; omega
theorem lines_shift (m : Nat) (L : List Str) : linesAt m L = shift m (linesAt 0 L) := by
  unfold linesAt
  have := linesF_shift m L.length 0 L
  rw [Nat.zero_add] at this
  exact this
theorem phys_stops (s : Str) : ∃ A x, phys (s ++ [46, 10]) = A ++ [x ++ [46]] := by
  induction s with
  | nil => exact ⟨[], [], rfl⟩
  | cons c r ih =>
    obtain ⟨A, x, h⟩ := ih
    rw [List.cons_append, phys, h]
    by_cases hc : c = 10
    · rw [if_pos hc]; exact ⟨[] :: A, x, rfl⟩
    · rw [if_neg hc]
      cases A with
      | nil => exact ⟨[], c :: x, rfl⟩
      | cons a t => exact ⟨(c :: a) :: t, x, rfl⟩
theorem stops_dot (s : Str) : Stops (phys (s ++ [46, 10])) := by
  obtain ⟨A, x, h⟩ := phys_stops s
  intro y hy
  rw [h, List.getLast?_concat] at hy
  cases hy
  unfold ends92
  rw [List.getLast?_concat]; rfl
theorem joinR_ok {s : Str} (h : (joinR s).2 = 0) : (joinR s).1 = linesAt 0 (phys s) ∧ s.length ≤ 20000 := by
  unfold joinR at h ⊢
  split at h
  · cases h
  · split at h
    · rename_i h1 h2
      rw [if_neg h1, if_pos h2]
      exact ⟨rfl, by omega⟩
    · cases h
theorem linesF_at : ∀ (f n : Nat) (L : List Str), ∀ x ∈ linesF f n L, (n : Int) < x.1 ∧ x.1 ≤ ((n + L.length : Nat) : Int)
  | 0, _, _, x, hx => by simp [linesF] at hx
  | f + 1, n, [], x, hx => by simp [linesF] at hx
  | f + 1, n, y :: r, x, hx => by
    have hp := joinH_pos y r
    have hl := joinH_le (y :: r)
    rw [linesF, if_neg (by simp)] at hx
    rcases List.mem_append.1 hx with h | h
    · split at h
      · simp at h
      · simp at h; subst h; simp; omega
    · have := linesF_at f _ _ x h
      rw [List.length_drop] at this
      omega
theorem joinR_at (s : Str) : ∀ x ∈ (joinR s).1, 0 ≤ x.1 ∧ x.1 ≤ 20000 := by
  intro x hx
  unfold joinR at hx
  split at hx
  · simp at hx
  · split at hx
    · have h1 := linesF_at _ _ _ x hx
      have h2 := phys_count s
      simp at h1
      omega
    · simp at hx
/-- the lines of both -/
theorem parts_join {s t : Str} (h1 : (joinR (s ++ [46, 10])).2 = 0) (h2 : (joinR t).2 = 0) (h3 : (joinR (s ++ [46, 10] ++ t)).2 = 0) :
    (joinR (s ++ [46, 10] ++ t)).1 = (joinR (s ++ [46, 10])).1 ++ shift ((s ++ [46, 10]).count 10) (joinR t).1 := by
  rw [(joinR_ok h1).1, (joinR_ok h2).1, (joinR_ok h3).1]
  have e1 : s ++ [46, 10] ++ t = (s ++ [46]) ++ 10 :: t := by simp
  have e2 : s ++ [46, 10] = (s ++ [46]) ++ [10] := by simp
  have e3 : (phys (s ++ [46, 10])).length = (s ++ [46, 10]).count 10 := by rw [e2]; exact phys_length' _
  rw [e1, phys_append, ← e2, lines_app _ 0 _ _ (Nat.le_refl _) (stops_dot s), Nat.zero_add, e3, lines_shift (List.count 10 (s ++ [46, 10]))]
end Go.Proofs.YtebjofffijnihaaGreatDoor
namespace Go.Proofs.YtebjofffijnihaaGreatDoor
set_option maxRecDepth 100000
set_option linter.unusedVariables false

/-- a byte that no line turns -/
def clean (c : UInt8) : Bool := may c && c != 10 && c != 35 && c != 92
theorem cut1_clean : ∀ (x : Str) (p : Bool), 35 ∉ x → cut1 p x = x
  | [], _, _ => by simp [cut1]
  | c :: r, p, h => by
    rw [List.mem_cons, not_or] at h
    rw [cut1, if_neg (fun k => h.1 k.1.symm), cut1_clean r _ h.2]
theorem repl_clean : ∀ x : Str, 92 ∉ x → repl x = x
  | [], _ => rfl
  | [c], _ => rfl
  | c :: d :: r, h => by
    rw [List.mem_cons, not_or] at h
    rw [repl, if_neg (fun k => h.1 k.1.symm), repl_clean (d :: r) h.2]
theorem trimr_clean {x : Str} (h : ∀ c, x.getLast? = some c → bl c = false) : trimr x = x := by
  unfold trimr
  cases hr : x.reverse with
  | nil => rw [List.reverse_eq_nil_iff] at hr; subst hr; rfl
  | cons c r =>
    have e : x.getLast? = some c := by rw [List.getLast?_eq_head?_reverse, hr]; rfl
    rw [List.dropWhile_cons, h c e]
    simp only [Bool.false_eq_true, if_false]
    rw [← hr, List.reverse_reverse]
structure Neat (x : Str) : Prop where
  ne : x ≠ []
  byt : ∀ c ∈ x, clean c = true
  fin : ∀ c, x.getLast? = some c → bl c = false
theorem Neat.nots {x : Str} (h : Neat x) : 10 ∉ x ∧ 35 ∉ x ∧ 92 ∉ x := by
  refine ⟨fun k => ?_, fun k => ?_, fun k => ?_⟩ <;> exact absurd (h.byt _ k) (by decide)
theorem Neat.mays {x : Str} (h : Neat x) : x.all may = true := by
  rw [List.all_eq_true]
  intro c hc
  have := h.byt c hc
  unfold clean at this
  simp only [Bool.and_eq_true] at this
  exact this.1.1.1
theorem Neat.same {x : Str} (h : Neat x) : unc x = x := by
  obtain ⟨_, h2, h3⟩ := h.nots
  unfold unc
  rw [cut1_clean x _ h2, repl_clean x h3, trimr_clean h.fin]
theorem Neat.ends {x : Str} (h : Neat x) : ends92 x = false := by
  unfold ends92
  cases hl : x.getLast? with
  | none => rfl
  | some c =>
    have := h.nots.2.2
    have hc : c ≠ 92 := by rintro rfl; exact this (List.mem_of_getLast? hl)
    simp [hc]
theorem Neat.lines {x : Str} (h : Neat x) (n : Nat) : linesAt n [x] = [(((n + 1 : Nat) : Int), x)] := by
  have e : joinH [x] = (x, 1) := by rw [joinH, h.ends]; rfl
  rw [linesAt_cons n [x] (by simp), e]
  simp only [h.same, if_neg h.ne]
  rfl
theorem Neat.bare {x : Str} (h : Neat x) (hl : x.length ≤ 20000) : joinR x = ([(1, x)], 0) := by
  unfold joinR
  rw [if_neg (by omega), h.mays, if_pos rfl, phys_bare x h.nots.1 h.ne, h.lines 0]
  rfl
theorem Neat.line {x : Str} (h : Neat x) (hl : x.length < 20000) : joinR (x ++ [10]) = ([(1, x)], 0) := by
  unfold joinR
  have hm := h.mays
  rw [if_neg (by rw [List.length_append]; simp; omega), List.all_append, hm, phys_one x h.nots.1, h.lines 0]
  rfl
theorem okB_clean {c : UInt8} (h : okB c.toNat = true) : clean c = true ∧ bl c = false := by
  have key : ∀ c : Fin 256, okB c.val = true → (may (UInt8.ofNat c.val) && UInt8.ofNat c.val != 10 && UInt8.ofNat c.val != 35 && UInt8.ofNat c.val != 92) = true ∧ bl (UInt8.ofNat c.val) = false := by decide +kernel
  have := key ⟨c.toNat, UInt8.toNat_lt c⟩ h
  simpa [clean] using this
theorem good_bytes {y : Str} (h : good y = true) : y ≠ [] ∧ ∀ c ∈ y, okB c.toNat = true := by
  unfold good at h
  rw [Bool.and_eq_true] at h
  refine ⟨?_, List.all_eq_true.1 h.2⟩
  rintro rfl
  exact absurd h.1 (by decide)
/-- the line that includes y -/
def incL (y : Str) : Str := incW ++ 32 :: y
theorem incL_clean {y : Str} (h : good y = true) : Neat (incL y) := by
  obtain ⟨h0, h1⟩ := good_bytes h
  refine ⟨by simp [incL, incW], fun c hc => ?_, fun c hc => ?_⟩
  · unfold incL at hc
    rcases List.mem_append.1 hc with k | k
    · have : ∀ c ∈ incW, clean c = true := by decide
      exact this c k
    · rcases List.mem_cons.1 k with rfl | k
      · rfl
      · exact (okB_clean (h1 c k)).1
  · unfold incL at hc
    obtain ⟨c', hc'⟩ : ∃ c', y.getLast? = some c' := ⟨y.getLast h0, List.getLast?_eq_some_getLast h0⟩
    have e : (incW ++ 32 :: y).getLast? = some c' := by
      rw [List.getLast?_append]
      have : (32 :: y : Str).getLast? = some c' := by
        cases y with
        | nil => exact absurd rfl h0
        | cons a r => rw [List.getLast?_cons_cons]; exact hc'
      rw [this]; rfl
    rw [e] at hc
    cases hc
    exact (okB_clean (h1 c (List.mem_of_getLast? hc'))).2
theorem incL_words {y : Str} (h : good y = true) : words (incL y) = [incW, y] := by
  obtain ⟨h0, h1⟩ := good_bytes h
  have e : incL y = Lib.join [incW, y] [32] := by rw [Lib.join_cons]; simp [Lib.joinTail, incL]
  rw [e]
  refine words_join fun x hx => ?_
  simp at hx
  rcases hx with rfl | rfl
  · exact ⟨by decide, by decide⟩
  · exact ⟨h0, fun c hc => (okB_clean (h1 c hc)).2⟩
theorem inc_incL {y : Str} (h : good y = true) : inc (incL y) = true ∧ wd1 (incL y) = y ∧ (words (incL y)).length = 2 := by
  unfold inc wd1
  rw [incL_words h]
  exact ⟨rfl, rfl, rfl⟩
theorem incL_len {y : Str} (h : good y = true) : (incL y).length ≤ 48 := by
  have := (good_len h).2
  unfold incL incW
  simp; omega
/-- an include line, alone -/
theorem rd_inc (T : List Mc) (op : List Str) (n : Nat) {y : Str} (h : good y = true) (hn : n < 200) : rd T op n [incL y] = catR (fun m => rd T op m []) (rdI T op (n + 1) y) := by
  obtain ⟨h1, h2, h3⟩ := inc_incL h
  rw [rd_cons]
  congr 1
  unfold rd1
  rw [if_neg (by omega), h1, if_neg (by decide), h3, if_neg (by decide), h2]

/-! a text that includes itself -/
def dig (i : Nat) : UInt8 := UInt8.ofNat (48 + i)
def cyN (n : Str) (i : Nat) : Str := n ++ [dig i]
/-- the texts: each includes the next one, the last one the first -/
def cyT (n : Str) (k : Nat) : List Mc := (List.range (k + 1)).map fun i => (cyN n i, incL (cyN n ((i + 1) % (k + 1))) ++ [10])
theorem dig_inj {i j : Nat} (hi : i < 9) (hj : j < 9) (h : dig i = dig j) : i = j := by
  have key : ∀ i j : Fin 9, dig i.val = dig j.val → i = j := by decide
  have := key ⟨i, hi⟩ ⟨j, hj⟩ h
  injection this
theorem dig_ok {i : Nat} (hi : i < 9) : okB (dig i).toNat = true := by
  have key : ∀ i : Fin 9, okB (dig i.val).toNat = true := by decide
  exact key ⟨i, hi⟩
theorem cyN_inj {n : Str} {i j : Nat} (hi : i < 9) (hj : j < 9) (h : cyN n i = cyN n j) : i = j := by
  unfold cyN at h
  have := List.append_cancel_left h
  simp at this
  exact dig_inj hi hj this
theorem cyN_good {n : Str} (hn : good n = true) (hl : n.length ≤ 38) {i : Nat} (hi : i < 9) : good (cyN n i) = true := by
  obtain ⟨h0, h1⟩ := good_bytes hn
  unfold good cyN
  rw [Bool.and_eq_true]
  refine ⟨decide_eq_true ⟨by simp, by simp; omega⟩, ?_⟩
  rw [List.all_append, Bool.and_eq_true]
  refine ⟨List.all_eq_true.2 h1, ?_⟩
  simp [dig_ok hi]
theorem cy_look {n : Str} {k i : Nat} (hk : k ≤ 8) (hi : i ≤ k) : look (cyT n k) (cyN n i) = some (incL (cyN n ((i + 1) % (k + 1))) ++ [10]) := by
  have key : ∀ (m : Nat), m ≤ i → ((List.range' m (k + 1 - m)).map fun i => (cyN n i, incL (cyN n ((i + 1) % (k + 1))) ++ [10])).find? (fun p => p.1 == cyN n i) = some (cyN n i, incL (cyN n ((i + 1) % (k + 1))) ++ [10]) := by
    intro m hm
    induction hd : i - m generalizing m with
    | zero =>
      obtain rfl : m = i := by omega
      rw [show k + 1 - m = (k - m) + 1 by omega, List.range'_succ, List.map_cons, List.find?_cons]
      simp
    | succ d ih =>
      rw [show k + 1 - m = (k - m) + 1 by omega, List.range'_succ, List.map_cons, List.find?_cons]
      have hne : (cyN n m == cyN n i) = false := by
        rw [beq_eq_false_iff_ne]
        intro h
        have := cyN_inj (by omega) (by omega) h
        omega
      simp only [hne]
      rw [show k - m = k + 1 - (m + 1) by omega]
      exact ih (m + 1) (by omega) (by omega)
  unfold look cyT
  rw [List.range_eq_range', show (k + 1) = (k + 1 - 0) by omega]
  have := key 0 (by omega)
  rw [show k + 1 - 0 = k + 1 by omega] at this ⊢
  rw [this]; rfl
/-- the first j names -/
def cyO (n : Str) : Nat → List Str
  | 0 => []
  | j + 1 => cyN n j :: cyO n j
theorem cyO_has {n : Str} {i : Nat} (hi : i < 9) : ∀ {j : Nat}, j ≤ 9 → ((cyO n j).contains (cyN n i) = decide (i < j))
  | 0, _ => by simp [cyO]
  | j + 1, hj => by
    rw [cyO, List.contains_cons, cyO_has hi (by omega)]
    by_cases h : i = j
    · subst h; simp
    · have : (cyN n i == cyN n j) = false := by
        rw [beq_eq_false_iff_ne]; intro e; exact h (cyN_inj hi (by omega) e)
      rw [this, Bool.false_or, Bool.eq_iff_iff, decide_eq_true_iff, decide_eq_true_iff]
      omega
theorem cy_turn {n : Str} (hn : good n = true) (hl : n.length ≤ 38) {k : Nat} (hk : k ≤ 8) : ∀ (d j m : Nat), j + d = k → m ≤ 20 + j → rdI (cyT n k) (cyO n j) m (cyN n j) = (8, [], 0) := by
  intro d
  induction d with
  | zero =>
    intro j m hd hm
    obtain rfl : j = k := by omega
    have g := cyN_good hn hl (i := 0) (by omega)
    have e1 : (j + 1) % (j + 1) = 0 := Nat.mod_self _
    unfold rdI
    rw [cy_look hk (Nat.le_refl _), e1]
    simp only []
    rw [cyO_has (by omega) (by omega), if_neg (by simp)]
    unfold rdS
    rw [(incL_clean g).line (by have := incL_len g; omega), if_neg (by simp)]
    simp only [List.map_cons, List.map_nil]
    rw [rd_inc _ _ _ g (by omega)]
    have e2 : rdI (cyT n j) (cyN n j :: cyO n j) (m + 1) (cyN n 0) = (8, [], 0) := by
      unfold rdI
      rw [cy_look hk (by omega)]
      simp only []
      rw [show cyN n j :: cyO n j = cyO n (j + 1) from rfl, cyO_has (by omega) (by omega), if_pos (by simp)]
    rw [e2]; rfl
  | succ d ih =>
    intro j m hd hm
    have g := cyN_good hn hl (i := j + 1) (by omega)
    have e1 : (j + 1) % (k + 1) = j + 1 := Nat.mod_eq_of_lt (by omega)
    unfold rdI
    rw [cy_look hk (by omega), e1]
    simp only []
    rw [cyO_has (by omega) (by omega), if_neg (by simp)]
    unfold rdS
    rw [(incL_clean g).line (by have := incL_len g; omega), if_neg (by simp)]
    simp only [List.map_cons, List.map_nil]
    rw [rd_inc _ _ _ g (by omega)]
    have := ih (j + 1) (m + 1) (by omega) (by omega)
    rw [show cyO n (j + 1) = cyN n j :: cyO n j from rfl] at this
    rw [this]; rfl
theorem txF_ok : ∀ (T : List Mc) (seen : List Str), (∀ m ∈ T, good m.1 = true) → (T.map (·.1)).Nodup → (∀ m ∈ T, seen.contains m.1 = false) → txF seen T = 0
  | [], _, _, _, _ => rfl
  | m :: r, seen, hg, hd, hs => by
    rw [List.map_cons, List.nodup_cons] at hd
    rw [txF, hg m (by simp), if_neg (by decide), hs m (by simp), if_neg (by decide)]
    refine txF_ok r _ (fun x hx => hg x (by simp [hx])) hd.2 (fun x hx => ?_)
    rw [List.contains_cons, hs x (by simp [hx]), Bool.or_false, beq_eq_false_iff_ne]
    intro e
    exact hd.1 (by rw [← e]; exact List.mem_map_of_mem hx)
theorem cy_names (n : Str) (k : Nat) : (cyT n k).map (·.1) = (List.range (k + 1)).map (cyN n) := by
  unfold cyT
  rw [List.map_map]; rfl
theorem nodup_map {f : Nat → Str} : ∀ (l : List Nat), (∀ i ∈ l, ∀ j ∈ l, f i = f j → i = j) → l.Nodup → (l.map f).Nodup
  | [], _, _ => List.nodup_nil
  | i :: l, h, hd => by
    rw [List.nodup_cons] at hd
    rw [List.map_cons, List.nodup_cons]
    refine ⟨fun hm => ?_, nodup_map l (fun a ha b hb => h a (by simp [ha]) b (by simp [hb])) hd.2⟩
    obtain ⟨j, hj, e⟩ := List.mem_map.1 hm
    have := h j (by simp [hj]) i (by simp) e
    subst this
    exact hd.1 hj
theorem cy_lines {n : Str} (hn : good n = true) (hl : n.length ≤ 38) {k : Nat} (hk : k ≤ 8) : linesR (incL (cyN n 0)) (cyT n k) = ([], 8) := by
  have g := cyN_good hn hl (i := 0) (by omega)
  have h0 : txF [] (cyT n k) = 0 := by
    refine txF_ok _ _ (fun m hm => ?_) ?_ (fun m _ => rfl)
    · obtain ⟨i, hi, rfl⟩ := List.mem_map.1 hm
      rw [List.mem_range] at hi
      exact cyN_good hn hl (by omega)
    · rw [cy_names]
      refine nodup_map _ (fun i hi j hj e => ?_) List.nodup_range
      rw [List.mem_range] at hi hj
      exact cyN_inj (by omega) (by omega) e
  have h1 : rdS (cyT n k) [] 0 (incL (cyN n 0)) = (8, [], 0) := by
    unfold rdS
    rw [(incL_clean g).bare (by have := incL_len g; omega), if_neg (by simp)]
    simp only [List.map_cons, List.map_nil]
    rw [rd_inc _ _ _ g (by omega)]
    have := cy_turn hn hl hk k 0 1 (by omega) (by omega)
    rw [show cyO n 0 = [] from rfl] at this
    rw [this]; rfl
  unfold linesR
  rw [if_neg (by unfold cyT; simp; omega), h0, if_neg (by decide), h1, if_pos (by decide)]
end Go.Proofs.YtebjofffijnihaaGreatDoor
namespace Go.Proofs.YtebjofffijnihaaGreatDoor
set_option maxRecDepth 100000
set_option linter.unusedVariables false
open Go.ChangeShapes Go.WideShapes Go.ChangeAt Go.RowKit

/-- block k holds the cells xs -/
def Blk (k : Nat) (xs : Array Value) (t : TypeId) (w : World) : Prop := w.heap[k]? = some (.cells xs t (0, 0))
theorem Blk.lt {k : Nat} {xs : Array Value} {t : TypeId} {w : World} (h : Blk k xs t w) : k < w.heap.size := by
  rcases Nat.lt_or_ge k w.heap.size with h' | h'
  · exact h'
  · unfold Blk at h; simp [Array.getElem?_eq_none h'] at h
theorem Blk.cell {k : Nat} {xs : Array Value} {t : TypeId} {w : World} (h : Blk k xs t w) {i : Nat} {x : Value} (hi : xs[i]? = some x) : w.cell? ⟨k, i, none⟩ = some x := by
  unfold Blk at h
  unfold World.cell?
  simp [h, hi]
theorem Blk.free {k : Nat} {xs : Array Value} {t : TypeId} {w : World} (h : Blk k xs t w) (i : Nat) : w.frozen? ⟨k, i, none⟩ = false := by
  unfold Blk at h
  unfold World.frozen?
  simp [h]
theorem Blk.at {k : Nat} {xs : Array Value} {t : TypeId} {w w' : World} (h : Blk k xs t w) (hb : w'.heap[k]? = w.heap[k]?) : Blk k xs t w' := hb.trans h
theorem Blk.later {k : Nat} {xs : Array Value} {t : TypeId} {w w' : World} (h : Blk k xs t w) (hb : Below w.heap.size w w') : Blk k xs t w' := h.at (hb.block _ h.lt)
theorem blk_new (w : World) (xs : Array Value) (t : TypeId) : Blk w.heap.size xs t (w.alloc (.cells xs t)) := by unfold Blk; exact heap_alloc_new _ _
theorem Blk.alloc {k : Nat} {xs : Array Value} {t : TypeId} {w : World} (h : Blk k xs t w) (o : Obj) : Blk k xs t (w.alloc o) := h.at (Below.heap_alloc _ _ _ h.lt)
theorem Blk.other {k : Nat} {xs : Array Value} {t : TypeId} {w : World} (h : Blk k xs t w) {a : Addr} (ha : k ≠ a.block) (u : Value) : Blk k xs t (w.setCell a u) := h.at (Below.heap_setCell _ _ _ _ ha)
theorem Blk.set {k : Nat} {xs : Array Value} {t : TypeId} {w : World} (h : Blk k xs t w) (i : Nat) (u : Value) : Blk k (xs.setIfInBounds i u) t (w.setCell ⟨k, i, none⟩ u) := by
  unfold Blk at h ⊢
  have hk := Blk.lt h
  unfold World.setCell
  rw [Array.getElem?_modify]
  simp [h]

/-- the texts' own fault -/
def tFault (z : List Mc) : Int := if 20 < z.length then 2 else txF [] z
theorem look_snoc {z : List Mc} {x y : Str} (h : (z.map (·.1)).contains x = false) (s : Str) : fT (look (z ++ [(x, y)])) s = upd (fT (look z)) x (.string (bs y)) s := by
  unfold fT upd look
  rw [List.find?_append]
  by_cases hs : s = x
  · subst hs
    have e : z.find? (fun m => m.1 == s) = none := by
      rw [List.find?_eq_none]
      intro m hm e
      have e' : m.1 = s := by simpa using e
      have : (z.map (·.1)).contains s = true := by rw [List.contains_iff_mem, ← e']; exact List.mem_map_of_mem hm
      rw [h] at this; cases this
    rw [e]; simp
  · have e : (x == s) = false := by rw [beq_eq_false_iff_ne]; exact fun e => hs e.symm
    rw [if_neg hs]
    cases hf : z.find? (fun m => m.1 == s) with
    | none => simp [e, hf]
    | some m => simp [hf]
theorem look_has (z : List Mc) (x : Str) : (look z x).isSome = (z.map (·.1)).contains x := by
  rw [Bool.eq_iff_iff, List.contains_iff_mem]
  unfold look
  rw [Option.isSome_map, List.find?_isSome]
  constructor
  · rintro ⟨m, hm, e⟩
    have e' : m.1 = x := by simpa using e
    rw [← e']; exact List.mem_map_of_mem hm
  · intro h
    obtain ⟨m, hm, e⟩ := List.mem_map.1 h
    exact ⟨m, hm, by simpa using e⟩
def TPost (z : List Mc) (w : World) (e : Ending) (w' : World) : Prop :=
  Below w.heap.size w w' ∧ ((tFault z = 0 ∧ e = .returned (.tuple #[.map (some w.heap.size), .int .i64 0]) ∧ MI w.heap.size z.length (fT (look z)) w') ∨ (tFault z ≠ 0 ∧ e = .returned (.tuple #[.map none, .int .i64 (tFault z)])))
end Go.Proofs.YtebjofffijnihaaGreatDoor
namespace Go.Proofs.YtebjofffijnihaaGreatDoor
set_option maxRecDepth 100000
set_option linter.unusedVariables false
open Go.ChangeShapes Go.WideShapes Go.ChangeAt Go.RowKit

/-- old blocks but rb, ob and v's row are as they were -/
structure KR (rb ob : Nat) (v : Value) (w w' : World) : Prop where
  os : w'.os = w.os
  tape : w'.tape = w.tape
  output : w'.output = w.output
  size : w.heap.size ≤ w'.heap.size
  block : ∀ k, k < w.heap.size → k ≠ rb → k ≠ ob → v.ownBlock ≠ some k → w'.heap[k]? = w.heap[k]?
/-- v' lies where v lay, or in a new block -/
def Ow (v v' : Value) (w : World) : Prop := ∀ k, v'.ownBlock = some k → v.ownBlock = some k ∨ w.heap.size ≤ k
theorem Ow.refl (v : Value) (w : World) : Ow v v w := fun k h => .inl h
theorem Ow.trans {v v1 v2 : Value} {w w1 : World} (h : Ow v v1 w) (g : Ow v1 v2 w1) (hs : w.heap.size ≤ w1.heap.size) : Ow v v2 w := fun k hk => by
  rcases g k hk with h1 | h1
  · exact h k h1
  · exact .inr (Nat.le_trans hs h1)
theorem KR.refl (rb ob : Nat) (v : Value) (w : World) : KR rb ob v w w := ⟨rfl, rfl, rfl, Nat.le_refl _, fun _ _ _ _ _ => rfl⟩
theorem KR.trans {rb ob : Nat} {v v1 : Value} {w w1 w2 : World} (h : KR rb ob v w w1) (o : Ow v v1 w) (g : KR rb ob v1 w1 w2) : KR rb ob v w w2 :=
  ⟨g.os.trans h.os, g.tape.trans h.tape, g.output.trans h.output, Nat.le_trans h.size g.size, fun k hk h1 h2 h3 => (g.block k (Nat.lt_of_lt_of_le hk h.size) h1 h2 (fun e => by
    rcases o k e with q | q
    · exact h3 q
    · omega)).trans (h.block k hk h1 h2 h3)⟩
theorem KR.below {rb ob : Nat} {v : Value} {w w' : World} (h : Below w.heap.size w w') : KR rb ob v w w' := ⟨h.os, h.tape, h.output, h.size, fun k hk _ _ _ => h.block k hk⟩
theorem KR.to {rb ob N : Nat} {v : Value} {w w' : World} (h : KR rb ob v w w') (h1 : N ≤ rb) (h2 : N ≤ ob) (h3 : ∀ k, v.ownBlock = some k → N ≤ k) (hN : N ≤ w.heap.size) : Below N w w' :=
  ⟨h.os, h.tape, h.output, h.size, fun k hk => h.block k (by omega) (by omega) (by omega) (fun e => by have := h3 k e; omega)⟩
theorem KR.cell {rb ob : Nat} (v : Value) (w : World) (i : Nat) (u : Value) : KR rb ob v w (w.setCell ⟨rb, i, none⟩ u) :=
  ⟨rfl, rfl, rfl, by rw [setCell_size]; exact Nat.le_refl _, fun k hk h1 _ _ => Below.heap_setCell _ _ _ _ (by exact h1)⟩
theorem KR.grown {rb ob : Nat} {v : Value} {w w' : World} (h : w.grownBy w' v.ownBlock) : KR rb ob v w w' := ⟨h.os, h.tape, h.output, h.size, fun k hk _ _ h3 => h.block k hk (fun e => h3 e.symm)⟩
theorem KR.map {rb ob : Nat} (v : Value) {w w' : World} (h : w.grownBy w' (some ob)) : KR rb ob v w w' := ⟨h.os, h.tape, h.output, h.size, fun k hk _ h2 _ => h.block k hk (fun e => h2 (by injection e))⟩

variable {N B rb tb ob : Nat} {T : List Mc} {s : Nat} {op : List Str} {n : Nat} {L : List Str} {v : Value} {w : World}
theorem MI.at {b m : Nat} {f : Str → Option Value} {w w' : World} (h : MI b m f w) (e : w'.heap[b]? = w.heap[b]?) : MI b m f w' := by
  obtain ⟨D, ⟨es, clock, hb', r⟩, k⟩ := h
  exact ⟨D, ⟨es, clock, e.trans hb', r⟩, k⟩
theorem MX.at {w w' : World} (h : MX w) (e : w'.heap[0]? = w.heap[0]?) : MX w' := by
  obtain ⟨m, hm⟩ := h
  exact ⟨m, (World.cell?_of_block (a := ⟨0, 0, none⟩) e).trans hm⟩
/-- how the lines go on -/
def Goes (a : Int × List Str × Nat) (o : List Str) (b : Int × List Str × Nat) : Prop := a.1 = b.1 ∧ (a.1 = 0 → a.2.1 = o ++ b.2.1 ∧ a.2.2 = b.2.2)
theorem Goes.start (a : Int × List Str × Nat) : Goes a [] a := ⟨rfl, fun _ => ⟨rfl, rfl⟩⟩
theorem Goes.step {a : Int × List Str × Nat} {o : List Str} {n' : Nat} {x : Str} {r : List Str} (h : Goes a o (rd T op n' (x :: r))) (h0 : (rd1 T op n' x).1 = 0) : Goes a (o ++ (rd1 T op n' x).2.1) (rd T op (rd1 T op n' x).2.2 r) := by
  rw [rd_cons] at h
  unfold catR at h
  rw [if_neg (fun e => e h0)] at h
  refine ⟨h.1, fun e => ?_⟩
  obtain ⟨h1, h2⟩ := h.2 e
  exact ⟨by rw [h1, List.append_assoc], h2⟩
theorem Goes.bad {a : Int × List Str × Nat} {o : List Str} {n' : Nat} {x : Str} {r : List Str} (h : Goes a o (rd T op n' (x :: r))) (h0 : (rd1 T op n' x).1 ≠ 0) : a.1 = (rd1 T op n' x).1 := by
  rw [rd_cons] at h
  unfold catR at h
  rw [if_pos h0] at h
  exact h.1
theorem Goes.done {a : Int × List Str × Nat} {o : List Str} {n' : Nat} (h : Goes a o (rd T op n' [])) : a.1 = 0 ∧ a.2.1 = o ∧ a.2.2 = n' := by
  rw [rd_nil] at h
  obtain ⟨h1, h2⟩ := h
  obtain ⟨h3, h4⟩ := h2 h1
  exact ⟨h1, by rw [h3, List.append_nil], h4⟩
theorem joinR_few (s : Str) : (joinR s).1.length ≤ 20000 := by
  unfold joinR
  split
  · simp
  · split
    · have h1 := linesAt_length 0 (phys s)
      have h2 := phys_count s
      show (linesAt 0 (phys s)).length ≤ 20000
      omega
    · simp
theorem linesF_len (M : Nat) : ∀ (f n : Nat) (P : List Str), bulk P ≤ M → ∀ x ∈ linesF f n P, x.2.length ≤ M
  | 0, _, _, _, x, hx => by simp [linesF] at hx
  | f + 1, n, P, hM, x, hx => by
    rw [linesF] at hx
    split at hx
    · simp at hx
    · rcases List.mem_append.1 hx with h | h
      · split at h
        · simp at h
        · simp at h
          subst h
          exact Nat.le_trans (unc_le _) (Nat.le_trans (joinH_len P) hM)
      · exact linesF_len M f _ _ (Nat.le_trans (bulk_drop P _) hM) x h
theorem joinR_short (s : Str) : ∀ x ∈ (joinR s).1, x.2.length ≤ 20001 := by
  intro x hx
  unfold joinR at hx
  split at hx
  · simp at hx
  · split at hx
    · exact linesF_len 20001 _ _ _ (bulk_text (by omega)) x hx
    · simp at hx
end Go.Proofs.YtebjofffijnihaaGreatDoor
