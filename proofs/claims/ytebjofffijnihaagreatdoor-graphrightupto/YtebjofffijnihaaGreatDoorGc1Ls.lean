/-
  Plain facts on lists of strings: sorted, each once; nothing of the program. No condition.
  What package name's Check and the reference's GoodName answer: whether a string is a name. No condition.
  Plain facts on bytes and lines: physical lines, continued lines, comments, blanks; nothing of the program. No condition.
-/
import Derived.Test.YtebjofffijnihaaGreatDoorRows
import Derived.Lib.SlicesCompact
import Derived.Sort.EncStr
import Derived.WalkKit
import Derived.ProofKit
import Derived.OpenShut
import Derived.Handy
import Derived.BigQuiet
import Derived.Deep.QuietTactic
import Derived.Lib.Hide
import Derived.WalkLawsBesides
import Derived.Laws.Externs
import Derived.Lib.Bytealg
import Derived.Lib.Replace
import Derived.Lib.Split
import Derived.Lib.SlTrimSet
import Derived.Lib.Join
namespace Go.Proofs.YtebjofffijnihaaGreatDoor
set_option maxRecDepth 100000

abbrev Str := List UInt8
/-- each less than the next -/
def Up (l : List Str) : Prop := l.Pairwise (· < ·)
theorem le_of_lt' {a b : Str} (h : a < b) : a ≤ b := by
  rcases List.le_total a b with k | k
  · exact k
  · exact absurd h (List.not_lt.2 k)
theorem lt_of_le_ne {a b : Str} (h : a ≤ b) (hn : a ≠ b) : a < b := by
  rcases Decidable.em (b ≤ a) with k | k
  · exact absurd (List.le_antisymm h k) hn
  · exact List.not_le.1 k
theorem lt_of_le_lt {a b c : Str} (h : a ≤ b) (k : b < c) : a < c := by
  rcases Decidable.em (c ≤ a) with q | q
  · exact absurd k (List.not_lt.2 (List.le_trans q h))
  · exact List.not_le.1 q
theorem lt_of_lt_le {a b c : Str} (h : a < b) (k : b ≤ c) : a < c := by
  rcases Decidable.em (c ≤ a) with q | q
  · exact absurd h (List.not_lt.2 (List.le_trans k q))
  · exact List.not_le.1 q

def sortS (z : List Str) : List Str := z.mergeSort fun x y => decide (x ≤ y)
theorem sortS_perm (z : List Str) : (sortS z).Perm z := List.mergeSort_perm _ _
theorem sortS_asc (z : List Str) : (sortS z).Pairwise (· ≤ ·) := by
  have := List.pairwise_mergeSort (le := fun x y : Str => decide (x ≤ y)) (fun a b c h1 h2 => decide_eq_true (List.le_trans (of_decide_eq_true h1) (of_decide_eq_true h2))) (fun a b => by
    rcases List.le_total a b with k | k
    · rw [decide_eq_true k]; rfl
    · rw [decide_eq_true k, Bool.or_true]) z
  exact this.imp fun h => of_decide_eq_true h

theorem compact_spec (d : Array Str) (hs : ∀ i j, i ≤ j → j < d.size → d[i]! ≤ d[j]!) : ∀ m, m ≤ d.size →
    Up (Lib.compactUpTo d m) ∧ ∀ x, x ∈ Lib.compactUpTo d m ↔ ∃ j, j < m ∧ d[j]! = x
  | 0, _ => ⟨List.Pairwise.nil, fun x => ⟨fun h => by simp [Lib.compactUpTo] at h, fun ⟨j, hj, _⟩ => absurd hj (Nat.not_lt_zero _)⟩⟩
  | m + 1, h => by
    obtain ⟨i1, i2⟩ := compact_spec d hs m (by omega)
    rw [Lib.compactUpTo_succ]
    by_cases hk : Lib.keeps d m = true
    · rw [if_pos hk]
      refine ⟨List.pairwise_append.2 ⟨i1, List.pairwise_singleton _ _, fun a ha b hb => ?_⟩, fun x => ?_⟩
      · rw [List.mem_singleton] at hb
        subst hb
        obtain ⟨j, hj, rfl⟩ := (i2 a).1 ha
        have hm : m ≠ 0 := by omega
        have hne : d[m]! ≠ d[m - 1]! := by
          have := of_decide_eq_true hk
          rcases this with h | h
          · exact absurd h hm
          · exact h
        exact lt_of_le_lt (hs j (m - 1) (by omega) (by omega)) (lt_of_le_ne (hs (m - 1) m (by omega) (by omega)) (Ne.symm hne))
      · rw [List.mem_append, List.mem_singleton, i2]
        constructor
        · rintro (⟨j, hj, rfl⟩ | rfl)
          · exact ⟨j, by omega, rfl⟩
          · exact ⟨m, by omega, rfl⟩
        · rintro ⟨j, hj, rfl⟩
          rcases Nat.lt_succ_iff_lt_or_eq.1 hj with h' | rfl
          · exact .inl ⟨j, h', rfl⟩
          · exact .inr rfl
    · rw [if_neg hk, List.append_nil]
      refine ⟨i1, fun x => ?_⟩
      rw [i2]
      constructor
      · rintro ⟨j, hj, rfl⟩; exact ⟨j, by omega, rfl⟩
      · rintro ⟨j, hj, rfl⟩
        rcases Nat.lt_succ_iff_lt_or_eq.1 hj with h' | rfl
        · exact ⟨j, h', rfl⟩
        · have hk' := of_decide_eq_false (Bool.not_eq_true _ ▸ hk)
          have h0 : j ≠ 0 := fun e => hk' (.inl e)
          have h1 : d[j]! = d[j - 1]! := Decidable.byContradiction fun e => hk' (.inr e)
          exact ⟨j - 1, by omega, h1.symm⟩

/-- sorted, each once -/
def uniq (z : List Str) : List Str := Lib.compact (sortS z)
theorem uniq_spec (z : List Str) : Up (uniq z) ∧ ∀ x, x ∈ uniq z ↔ x ∈ z := by
  have hs : ∀ i j, i ≤ j → j < (sortS z).toArray.size → (sortS z).toArray[i]! ≤ (sortS z).toArray[j]! := fun i j hij hj => by
    have hj' : j < (sortS z).length := by simpa using hj
    rw [getElem!_pos _ i (by simp; omega), getElem!_pos _ j hj]
    simp only [List.getElem_toArray]
    by_cases e : i = j
    · subst e; exact List.le_refl _
    · exact List.pairwise_iff_getElem.1 (sortS_asc z) i j (by omega) hj' (by omega)
  obtain ⟨h1, h2⟩ := compact_spec (sortS z).toArray hs (sortS z).length (by simp)
  refine ⟨h1, fun x => (h2 x).trans ?_⟩
  rw [← (sortS_perm z).mem_iff, List.mem_iff_getElem]
  constructor
  · rintro ⟨j, hj, rfl⟩
    exact ⟨j, hj, by rw [getElem!_pos _ j (by simpa using hj)]; simp⟩
  · rintro ⟨j, hj, rfl⟩
    exact ⟨j, hj, by rw [getElem!_pos _ j (by simpa using hj)]; simp⟩
theorem uniq_up (z : List Str) : Up (uniq z) := (uniq_spec z).1
theorem uniq_mem {z : List Str} {x : Str} : x ∈ uniq z ↔ x ∈ z := (uniq_spec z).2 x
theorem compact_le (z : List Str) : (Lib.compact z).length ≤ z.length := by
  unfold Lib.compact Lib.compactUpTo
  rw [List.length_map]
  exact Nat.le_trans (List.length_filter_le _ _) (by rw [List.length_range]; exact Nat.le_refl _)
theorem uniq_le (z : List Str) : (uniq z).length ≤ z.length := by
  have := compact_le (sortS z)
  rw [(sortS_perm z).length_eq] at this
  exact this

theorem up_ext : ∀ {a b : List Str}, Up a → Up b → (∀ x, x ∈ a ↔ x ∈ b) → a = b
  | [], [], _, _, _ => rfl
  | [], y :: _, _, _, h => absurd ((h y).2 (List.mem_cons_self ..)) List.not_mem_nil
  | x :: _, [], _, _, h => absurd ((h x).1 (List.mem_cons_self ..)) List.not_mem_nil
  | x :: a, y :: b, ha, hb, h => by
    obtain ⟨ha1, ha2⟩ := List.pairwise_cons.1 ha
    obtain ⟨hb1, hb2⟩ := List.pairwise_cons.1 hb
    have hxy : x = y := by
      rcases List.mem_cons.1 ((h x).1 (List.mem_cons_self ..)) with e | e
      · exact e
      · rcases List.mem_cons.1 ((h y).2 (List.mem_cons_self ..)) with e' | e'
        · exact e'.symm
        · exact absurd (List.lt_trans (hb1 x e) (ha1 y e')) (List.lt_irrefl _)
    subst hxy
    congr 1
    refine up_ext ha2 hb2 fun z => ⟨fun hz => ?_, fun hz => ?_⟩
    · rcases List.mem_cons.1 ((h z).1 (List.mem_cons_of_mem _ hz)) with e | e
      · subst e; exact absurd (ha1 z hz) (List.lt_irrefl _)
      · exact e
    · rcases List.mem_cons.1 ((h z).2 (List.mem_cons_of_mem _ hz)) with e | e
      · subst e; exact absurd (hb1 z hz) (List.lt_irrefl _)
      · exact e
theorem uniq_self {a : List Str} (h : Up a) : uniq a = a := up_ext (uniq_up a) h fun _ => uniq_mem
theorem uniq_congr {a b : List Str} (h : ∀ x, x ∈ a ↔ x ∈ b) : uniq a = uniq b := up_ext (uniq_up a) (uniq_up b) fun x => uniq_mem.trans ((h x).trans uniq_mem.symm)
theorem up_get {a : List Str} (h : Up a) {i j : Nat} (hij : i < j) (hj : j < a.length) : a.getD i [] < a.getD j [] := by
  rw [List.getD, List.getD, List.getElem?_eq_getElem (by omega), List.getElem?_eq_getElem hj]
  exact List.pairwise_iff_getElem.1 h i j (by omega) hj hij
theorem up_le {a : List Str} (h : Up a) {i j : Nat} (hij : i ≤ j) (hj : j < a.length) : a.getD i [] ≤ a.getD j [] := by
  by_cases e : i = j
  · subst e; exact List.le_refl _
  · exact le_of_lt' (up_get h (by omega) hj)
theorem up_inj {a : List Str} (h : Up a) {i j : Nat} (hi : i < a.length) (hj : j < a.length) (e : a.getD i [] = a.getD j []) : i = j := by
  rcases Nat.lt_trichotomy i j with k | k | k
  · exact absurd (e ▸ up_get h k hj) (List.lt_irrefl _)
  · exact k
  · exact absurd (e ▸ up_get h k hi) (List.lt_irrefl _)
theorem getD_mem {a : List Str} {i : Nat} (h : i < a.length) : a.getD i [] ∈ a := by
  rw [List.getD, List.getElem?_eq_getElem h]; exact List.getElem_mem h
theorem mem_getD {a : List Str} {x : Str} (h : x ∈ a) : ∃ i, i < a.length ∧ a.getD i [] = x := by
  obtain ⟨i, hi, e⟩ := List.getElem_of_mem h
  exact ⟨i, hi, by rw [List.getD, List.getElem?_eq_getElem hi]; exact e⟩
end Go.Proofs.YtebjofffijnihaaGreatDoor
namespace Go.Proofs.YtebjofffijnihaaGreatDoor
set_option maxRecDepth 100000
open Go.ChangeShapes Go.WideShapes Go.ChangeAt Go.RowKit

theorem ret_i {k : IntKind} {a b : Int} (h : a = b) : Ending.returned (.int k a) = .returned (.int k b) := by rw [h]
theorem ret_b {a b : Bool} (h : a = b) : Ending.returned (.bool a) = .returned (.bool b) := by rw [h]

/-- may a name hold the byte? -/
def okB (c : Nat) : Bool := decide (97 ≤ c ∧ c ≤ 122 ∨ 65 ≤ c ∧ c ≤ 90 ∨ 48 ≤ c ∧ c ≤ 57 ∨ c = 95 ∨ c = 46 ∨ c = 47 ∨ c = 45 ∨ c = 43)
/-- is it a name? -/
def good (l : List UInt8) : Bool := decide (0 < l.length ∧ l.length ≤ 40) && l.all fun c => okB c.toNat
def errOf (b : Bool) : Int := if b then 0 else 3

/-- a string's bytes as numbers -/
def byteAt (s : ByteArray) (k : Nat) : Nat := (s.data.toList.getD k 0).toNat
theorem byteAt_get (s : ByteArray) (k : Nat) (h : k < s.size) : s[k].toNat = byteAt s k := by
  have h' : k < s.data.size := h
  unfold byteAt
  rw [show s[k] = s.data[k] from rfl]
  rw [List.getD, Array.getElem?_toList, Array.getElem?_eq_getElem h']; rfl
theorem byteAt_lt (s : ByteArray) (k : Nat) : byteAt s k < 256 := UInt8.toNat_lt _
theorem size_list (s : ByteArray) : s.data.toList.length = s.size := Array.length_toList

theorem good_all {s : ByteArray} (h0 : 0 < s.size) (h1 : s.size ≤ 40) (h : ∀ j, j < s.size → okB (byteAt s j) = true) : good s.data.toList = true := by
  unfold good
  rw [size_list, decide_eq_true ⟨h0, h1⟩, Bool.true_and, List.all_eq_true]
  intro x hx
  obtain ⟨i, hi, rfl⟩ := List.getElem_of_mem hx
  have := h i (by rw [← size_list]; exact hi)
  unfold byteAt at this
  rwa [List.getD, List.getElem?_eq_getElem hi] at this
theorem good_bad {s : ByteArray} {k : Nat} (hk : k < s.size) (h : okB (byteAt s k) = false) : good s.data.toList = false := by
  unfold good
  rw [Bool.and_eq_false_iff]
  right
  rw [List.all_eq_false]
  have hi : k < s.data.toList.length := by rw [size_list]; exact hk
  refine ⟨s.data.toList[k], List.getElem_mem hi, ?_⟩
  unfold byteAt at h
  rw [List.getD, List.getElem?_eq_getElem hi] at h
  simpa using h
theorem good_size {s : ByteArray} (h : ¬ (0 < s.size ∧ s.size ≤ 40)) : good s.data.toList = false := by
  unfold good
  rw [size_list, decide_eq_false h]; rfl
theorem good_len {l : List UInt8} (h : good l = true) : 0 < l.length ∧ l.length ≤ 40 := by
  unfold good at h
  rw [Bool.and_eq_true] at h
  exact of_decide_eq_true h.1

/-! IndexByte -/
set_option maxRecDepth 100000 in
theorem idxLite_any (s : ByteArray) (c : Int) (w : World) :
    Calls Tryz.prog 110 #[.string s, .int .u8 c] w fun e w' => e = .returned (.int .i64 (Lib.indexByte s.data.toList c.toNat.toUInt8)) ∧ w' = w := by
  go_enter Tryz.func110, Tryz.ntmps110
  go_wp2
  rw [run_callFunc_extern Tryz.func132 (by kernel_rfl) (by kernel_rfl) (by kernel_rfl) (e := Extern.BytealgIndexByte.indexByte) (by kernel_rfl), Lib.run_indexByteString]
  simp only [Result.andThen]
  rw [Oper.upon_value]
  go_wp2
  go_ret
  exact ⟨rfl, rfl⟩
set_option maxRecDepth 100000 in
theorem idxByte_any (s : ByteArray) (c : Int) (w : World) :
    Calls Tryz.prog 82 #[.string s, .int .u8 c] w fun e w' => e = .returned (.int .i64 (Lib.indexByte s.data.toList c.toNat.toUInt8)) ∧ w' = w := by
  go_enter Tryz.func82, Tryz.ntmps82
  go_wp2_with fail
  refine (idxLite_any _ _ _).mono ?_
  rintro e w' ⟨rfl, rfl⟩
  go_wp2
  go_ret
  exact ⟨rfl, rfl⟩

theorem idx5 : ∀ n : Fin 256, decide (0 ≤ Lib.indexByte [95, 46, 47, 45, 43] ((n.val : Int).toNat.toUInt8)) = decide (n.val = 95 ∨ n.val = 46 ∨ n.val = 47 ∨ n.val = 45 ∨ n.val = 43) := by decide +kernel

set_option maxHeartbeats 1000000 in
theorem may_any (c : Nat) (h : c < 256) (w : World) :
    Calls Tryz.prog 61 #[.int .u8 (c : Int)] w fun e w' => e = .returned (.bool (okB c)) ∧ w' = w := by
  by_cases h1 : 97 ≤ c ∧ c ≤ 122
  · have e : Hid (okB c = true) := decide_eq_true (.inl h1)
    obtain ⟨a, b⟩ := h1
    go_enter Tryz.func61, Tryz.ntmps61
    go_wp2
    go_ret
    exact ⟨ret_b e.out.symm, rfl⟩
  by_cases h2 : 65 ≤ c ∧ c ≤ 90
  · have e : Hid (okB c = true) := decide_eq_true (.inr (.inl h2))
    have a : ¬ 97 ≤ c := by omega
    obtain ⟨a2, b2⟩ := h2
    clear h1
    go_enter Tryz.func61, Tryz.ntmps61
    go_wp2
    go_ret
    exact ⟨ret_b e.out.symm, rfl⟩
  by_cases h3 : 48 ≤ c ∧ c ≤ 57
  · have e : Hid (okB c = true) := decide_eq_true (.inr (.inr (.inl h3)))
    have a : ¬ 97 ≤ c := by omega
    have a1 : ¬ 65 ≤ c := by omega
    obtain ⟨a2, b2⟩ := h3
    clear h1 h2
    go_enter Tryz.func61, Tryz.ntmps61
    go_wp2
    go_ret
    exact ⟨ret_b e.out.symm, rfl⟩
  · have e : Hid (okB c = decide (0 ≤ Lib.indexByte [95, 46, 47, 45, 43] ((c : Int).toNat.toUInt8))) := by
      have := idx5 ⟨c, h⟩
      show _ = _
      refine Eq.trans (b := decide (c = 95 ∨ c = 46 ∨ c = 47 ∨ c = 45 ∨ c = 43)) ?_ this.symm
      unfold okB
      exact decide_eq_decide.2 ⟨fun k => by omega, fun k => by omega⟩
    have H1 := Lib.hid h1
    have H2 := Lib.hid h2
    have H3 := Lib.hid h3
    clear h1 h2 h3
    have step : ∀ (P : Prop), (¬ 97 ≤ c → ¬ 65 ≤ c → ¬ 48 ≤ c → P) → (¬ 97 ≤ c → ¬ 65 ≤ c → 48 ≤ c → ¬ c ≤ 57 → P) → (¬ 97 ≤ c → 65 ≤ c → ¬ c ≤ 90 → ¬ c ≤ 57 → 48 ≤ c → P) → (97 ≤ c → ¬ c ≤ 122 → 65 ≤ c → ¬ c ≤ 90 → ¬ c ≤ 57 → 48 ≤ c → P) → P := fun P p1 p2 p3 p4 => by
      have := H1.out; have := H2.out; have := H3.out
      by_cases a : 97 ≤ c
      · exact p4 a (by omega) (by omega) (by omega) (by omega) (by omega)
      by_cases b : 65 ≤ c
      · exact p3 a b (by omega) (by omega) (by omega)
      by_cases d : 48 ≤ c
      · exact p2 a b d (by omega)
      · exact p1 a b d
    refine step _ ?_ ?_ ?_ ?_ <;> clear step H1 H2 H3 <;> intros
    all_goals
      go_enter Tryz.func61, Tryz.ntmps61
      go_wp2_with fail
      refine (idxByte_any _ _ _).mono ?_
      rintro e' w' ⟨rfl, rfl⟩
      have e2 := e.out
      generalize Lib.indexByte _ _ = q at e2 ⊢
      go_wp2
      go_ret
      exact ⟨ret_b (by rw [e2]), rfl⟩

set_option maxHeartbeats 1000000 in
theorem check_any (s : ByteArray) (w : World) (hs : s.size ≤ 9223372036854775807) :
    Calls Tryz.prog 40 #[.string s] w fun e w' => e = .returned (.int .i64 (errOf (good s.data.toList))) ∧ w' = w := by
  by_cases h0 : s.size = 0
  · have e : Hid (good s.data.toList = false) := good_size (by omega)
    have t : ((s.size : Int) == 0) = true := by simp [h0]
    clear h0
    go_enter Tryz.func40, Tryz.ntmps40
    go_wp2
    go_ret
    rw [e.out]; exact ⟨rfl, rfl⟩
  have t : ((s.size : Int) == 0) = false := by rw [beq_eq_false_iff_ne]; omega
  by_cases h1 : 40 < s.size
  · have e : Hid (good s.data.toList = false) := good_size (by omega)
    clear h0
    go_enter Tryz.func40, Tryz.ntmps40
    go_wp2
    go_ret
    rw [e.out]; exact ⟨rfl, rfl⟩
  have HF : Hid (∀ k (h : k < s.size), s[k].toNat = byteAt s k) := byteAt_get s
  have HL : Hid (∀ k, byteAt s k < 256) := byteAt_lt s
  have HG : Hid ((∀ j, j < s.size → okB (byteAt s j) = true) → good s.data.toList = true) := fun h => good_all (by omega) (by omega) h
  have HN : Hid (∀ k, k < s.size → okB (byteAt s k) = false → good s.data.toList = false) := fun k hk h => good_bad hk h
  generalize byteAt s = f at *
  generalize good s.data.toList = G at *
  clear h0
  go_enter Tryz.func40, Tryz.ntmps40
  go_wp2_with fail
  go_loopw [14] (fun i wr => ∃ k : Nat, k ≤ s.size ∧ i = .int .i64 (k : Int) ∧ (∀ j, j < k → okB (f j) = true) ∧ wr = w) (fun i _ => s.size - (intOf i).toNat)
  case atStart => exact ⟨0, by omega, rfl, fun _ h => absurd h (Nat.not_lt_zero _), rfl⟩
  case round =>
    obtain ⟨k, hk, rfl, hall, rfl⟩ := hrel
    have HA := Lib.hid hall; clear hall
    by_cases hlt : k < s.size
    · have hb := HF.out k hlt
      go_wp2_with fail
      clear hb
      refine (may_any _ (HL.out k) _).mono ?_
      rintro e w' ⟨rfl, rfl⟩
      cases hd : okB (f k) with
      | false =>
        have HD := Lib.hid (HN.out k hlt hd); clear hd
        go_wp2
        go_ret
        rw [HD.out]; exact ⟨rfl, rfl⟩
      | true =>
        have HD := Lib.hid hd; clear hd
        go_wp2
        go_roundw
        case rel =>
          refine ⟨k + 1, by omega, by go_num, fun j hj => ?_, trivial⟩
          rcases Nat.lt_succ_iff_lt_or_eq.1 hj with h | h
          · exact HA.out j h
          · rw [h]; exact HD.out
        case measure => simp [intOf]; omega
    · obtain rfl : k = s.size := by omega
      have HD := Lib.hid (HG.out HA.out)
      go_wp2
      go_ret
      rw [HD.out]; exact ⟨rfl, rfl⟩
end Go.Proofs.YtebjofffijnihaaGreatDoor
namespace Go.Proofs.YtebjofffijnihaaGreatDoor
set_option maxRecDepth 100000

abbrev Ln := Int × Str

/-- a blank -/
def bl (c : UInt8) : Bool := c == 32 || c == 9
/-- a byte that may occur -/
def may (c : UInt8) : Bool := decide (32 ≤ c.toNat ∧ c.toNat ≤ 126 ∨ c.toNat = 9 ∨ c.toNat = 10)
def triml (s : Str) : Str := s.dropWhile bl
def trimr (s : Str) : Str := (s.reverse.dropWhile bl).reverse
theorem bl_contains : (fun b : UInt8 => [32, 9].contains b) = bl := by
  funext b
  simp only [List.contains, List.elem, bl]
  cases (b == 32) <;> cases (b == 9) <;> rfl
theorem triml_lib (s : Str) : Lib.trimLeftS s [32, 9] = triml s := by unfold Lib.trimLeftS triml; rw [bl_contains]
theorem trimr_lib (s : Str) : Lib.trimRightS s [32, 9] = trimr s := by unfold Lib.trimRightS trimr; rw [bl_contains]
theorem trim_lib (s : Str) : Lib.trimS s [32, 9] = triml (trimr s) := by unfold Lib.trimS; rw [trimr_lib, triml_lib]
theorem triml_le (s : Str) : (triml s).length ≤ s.length := (List.dropWhile_sublist _).length_le
theorem trimr_le (s : Str) : (trimr s).length ≤ s.length := by
  unfold trimr
  rw [List.length_reverse]
  have := (List.dropWhile_sublist bl (l := s.reverse)).length_le
  simpa using this

/-- physical lines -/
def phys : Str → List Str
  | [] => []
  | c :: r => if c = 10 then [] :: phys r else match phys r with
    | [] => [[c]]
    | x :: t => (c :: x) :: t
/-- cut at each newline -/
def cutNL : Str → List Str
  | [] => [[]]
  | c :: r => if c = 10 then [] :: cutNL r else match cutNL r with
    | [] => [[c]]
    | x :: t => (c :: x) :: t
theorem cutNL_ne (s : Str) : cutNL s ≠ [] := by
  cases s with
  | nil => simp [cutNL]
  | cons c r => unfold cutNL; split
                · simp
                · split <;> simp

theorem index_cons_ne {c d : UInt8} (r : Str) (h : c ≠ d) : Lib.index (c :: r) [d] = if Lib.index r [d] == -1 then -1 else Lib.index r [d] + 1 := by
  have : ([d].isPrefixOf (c :: r)) = false := by simp [List.isPrefixOf, Ne.symm h]
  rw [Lib.index, this]; simp
theorem index_cons_eq (c : UInt8) (r : Str) : Lib.index (c :: r) [c] = 0 := by
  have : ([c].isPrefixOf (c :: r)) = true := by simp [List.isPrefixOf]
  rw [Lib.index, this]; simp

theorem splitK_cut : ∀ s : Str, Lib.splitK [10] 0 (s.count 10) s = cutNL s
  | [] => rfl
  | c :: r => by
    have ih := splitK_cut r
    by_cases h : c = 10
    · subst h
      rw [List.count_cons_self, cutNL, if_pos rfl, Lib.splitK, index_cons_eq]
      simp [ih]
    · rw [List.count_cons_of_ne h, cutNL, if_neg h]
      by_cases h0 : r.count 10 = 0
      · rw [h0] at ih ⊢
        simp only [Lib.splitK] at ih ⊢
        rw [← ih]
      · obtain ⟨k, hk⟩ := Nat.exists_eq_succ_of_ne_zero h0
        have hc : 0 < Lib.count r [10] := by rw [Lib.count_one]; omega
        obtain ⟨i, hi⟩ := Lib.index_of_count hc
        rw [hk] at ih ⊢
        simp only [Nat.succ_eq_add_one] at ih ⊢
        rw [Lib.splitK, hi] at ih
        rw [Lib.splitK, index_cons_ne r h, hi]
        have e1 : ((i : Int) == -1) = false := by apply beq_false_of_ne; omega
        have e2 : ((i : Int) + 1 == -1) = false := by apply beq_false_of_ne; omega
        rw [e1] at ih
        simp only [Bool.false_eq_true, if_false, e1, e2] at ih ⊢
        rw [← ih]
        have e3 : ((i : Int) + 1).toNat = i + 1 := by omega
        simp [e3]

theorem trimSuffix_cons (c : UInt8) (r : Str) (hr : r ≠ []) : Lib.trimSuffix (c :: r) [10] = c :: Lib.trimSuffix r [10] := by
  unfold Lib.trimSuffix Lib.hasSuffix
  have e : ([10] : List UInt8).isSuffixOf (c :: r) = ([10] : List UInt8).isSuffixOf r := by
    rw [Bool.eq_iff_iff, List.isSuffixOf_iff_suffix, List.isSuffixOf_iff_suffix, List.suffix_cons_iff]
    constructor
    · rintro (h | h)
      · simp at h; exact (hr h.2).elim
      · exact h
    · exact .inr
  rw [e]
  obtain ⟨d, q, rfl⟩ := List.exists_cons_of_ne_nil hr
  split <;> simp
theorem phys_cut : ∀ s : Str, s ≠ [] → phys s = cutNL (Lib.trimSuffix s [10])
  | [], h => absurd rfl h
  | [c], _ => by
    by_cases h : c = 10
    · subst h; rfl
    · have e : ([10] : List UInt8).isSuffixOf [c] = false := by
        rw [Bool.eq_false_iff]; intro k; rw [List.isSuffixOf_iff_suffix, List.suffix_cons_iff] at k
        rcases k with k | k
        · simp at k; exact h k.symm
        · simp at k
      simp [phys, h, Lib.trimSuffix, Lib.hasSuffix, e, cutNL]
  | c :: d :: r, _ => by
    have ih := phys_cut (d :: r) (by simp)
    rw [trimSuffix_cons c (d :: r) (by simp), phys, cutNL, ih]

theorem phys_append (s t : Str) : phys (s ++ 10 :: t) = phys (s ++ [10]) ++ phys t := by
  induction s with
  | nil => simp [phys]
  | cons c r ih =>
    simp only [List.cons_append, phys, ih]
    by_cases h : c = 10
    · simp [h]
    · simp only [if_neg h]
      have : phys (r ++ [10]) ≠ [] := by
        cases r with
        | nil => simp [phys]
        | cons d q => simp only [List.cons_append, phys]; split
                      · simp
                      · split <;> simp
      obtain ⟨x, y, e⟩ := List.exists_cons_of_ne_nil this
      rw [e]; rfl
theorem phys_length : ∀ s : Str, (phys s).length ≤ s.count 10 + 1
  | [] => by simp [phys]
  | c :: r => by
    have ih := phys_length r
    rw [phys]
    by_cases h : c = 10
    · subst h; rw [if_pos rfl, List.count_cons_self, List.length_cons]; omega
    · rw [if_neg h, List.count_cons_of_ne h]
      split
      · simp
      · rename_i e; rw [e] at ih; simpa using ih
theorem phys_length' (s : Str) : (phys (s ++ [10])).length = (s ++ [10]).count 10 := by
  induction s with
  | nil => simp [phys]
  | cons c r ih =>
    simp only [List.cons_append, phys]
    by_cases h : c = 10
    · subst h; rw [if_pos rfl, List.count_cons_self, List.length_cons, ih]
    · rw [if_neg h, List.count_cons_of_ne h, ← ih]
      split
      · rename_i e; rw [e] at ih; simp at ih
      · rename_i e; rw [e]; rfl
theorem phys_le : ∀ s : Str, ∀ x ∈ phys s, x.length ≤ s.length
  | [] => by simp [phys]
  | c :: r => by
    have ih := phys_le r
    rw [phys]
    intro x hx
    by_cases h : c = 10
    · rw [if_pos h] at hx
      rcases List.mem_cons.1 hx with rfl | hx
      · simp
      · have := ih x hx; simp; omega
    · rw [if_neg h] at hx
      split at hx
      · simp at hx; subst hx; simp
      · rename_i y t e
        rcases List.mem_cons.1 hx with rfl | hx
        · have := ih y (by rw [e]; simp); simp; omega
        · have := ih x (by rw [e]; simp [hx]); simp; omega
theorem phys_count (s : Str) : (phys s).length ≤ s.length := by
  induction s with
  | nil => simp [phys]
  | cons c r ih =>
    rw [phys]
    split
    · simpa using ih
    · split
      · simp
      · rename_i e; rw [e] at ih; simp at ih ⊢; omega
theorem phys_noNL : ∀ s : Str, ∀ x ∈ phys s, 10 ∉ x
  | [] => by simp [phys]
  | c :: r => by
    have ih := phys_noNL r
    rw [phys]
    intro x hx
    by_cases h : c = 10
    · rw [if_pos h] at hx
      rcases List.mem_cons.1 hx with rfl | hx
      · simp
      · exact ih x hx
    · rw [if_neg h] at hx
      split at hx
      · simp at hx; subst hx; simp [Ne.symm h]
      · rename_i y t e
        rcases List.mem_cons.1 hx with rfl | hx
        · have := ih y (by rw [e]; simp); simp [this, Ne.symm h]
        · exact ih x (by rw [e]; simp [hx])
/-- a line alone -/
theorem phys_one (x : Str) (h : 10 ∉ x) : phys (x ++ [10]) = [x] := by
  induction x with
  | nil => simp [phys]
  | cons c r ih =>
    simp at h
    rw [List.cons_append, phys, if_neg (Ne.symm h.1), ih h.2]
theorem phys_bare (x : Str) (h : 10 ∉ x) (h0 : x ≠ []) : phys x = [x] := by
  induction x with
  | nil => exact absurd rfl h0
  | cons c r ih =>
    simp at h
    rw [phys, if_neg (Ne.symm h.1)]
    by_cases hr : r = []
    · subst hr; simp [phys]
    · rw [ih h.2 hr]

/-- a line that goes on -/
def ends92 (s : Str) : Bool := s.getLast? == some 92
theorem ends_lib (s : Str) : Lib.hasSuffix s [92] = ends92 s := by
  unfold Lib.hasSuffix ends92
  rw [Bool.eq_iff_iff, List.isSuffixOf_iff_suffix, beq_iff_eq]
  constructor
  · rintro ⟨t, rfl⟩; simp
  · intro h
    obtain ⟨t, rfl⟩ := List.getLast?_eq_some_iff.1 h
    exact ⟨t, rfl⟩
theorem trimSuffix_lib (s : Str) : Lib.trimSuffix s [92] = if ends92 s then s.dropLast else s := by
  unfold Lib.trimSuffix
  rw [ends_lib]
  simp [List.dropLast_eq_take]
def joinT : List Str → Str × Nat
  | [] => ([], 0)
  | x :: r => if ends92 (triml x) then (32 :: (triml x).dropLast ++ (joinT r).1, (joinT r).2 + 1) else (32 :: triml x, 1)
/-- the first line with those that continue it; how many they are -/
def joinH : List Str → Str × Nat
  | [] => ([], 0)
  | x :: r => if ends92 x then (x.dropLast ++ (joinT r).1, (joinT r).2 + 1) else (x, 1)
theorem joinT_le : ∀ L : List Str, (joinT L).2 ≤ L.length
  | [] => by simp [joinT]
  | x :: r => by
    have := joinT_le r
    rw [joinT]; split <;> simp <;> omega
theorem joinH_le (L : List Str) : (joinH L).2 ≤ L.length := by
  cases L with
  | nil => simp [joinH]
  | cons x r => have := joinT_le r; rw [joinH]; split <;> simp <;> omega
theorem joinH_pos (x : Str) (r : List Str) : 0 < (joinH (x :: r)).2 := by rw [joinH]; split <;> simp
/-- bytes in all -/
def bulk (L : List Str) : Nat := (L.map fun x => x.length + 1).sum
theorem joinT_len : ∀ L : List Str, (joinT L).1.length ≤ bulk L
  | [] => by simp [joinT]
  | x :: r => by
    have := joinT_len r
    have h2 := triml_le x
    rw [joinT]; unfold bulk at *; split
    · simp; omega
    · simp; omega
theorem joinH_len (L : List Str) : (joinH L).1.length ≤ bulk L := by
  cases L with
  | nil => simp [joinH]
  | cons x r =>
    have := joinT_len r
    rw [joinH]; unfold bulk at *; split
    · simp; omega
    · simp; omega
theorem bulk_phys (s : Str) : bulk (phys s) ≤ s.length + 1 := by
  induction s with
  | nil => simp [phys, bulk]
  | cons c r ih =>
    rw [phys]; unfold bulk at *; split
    · simp; omega
    · split
      · simp
      · rename_i e; rw [e] at ih; simp at ih ⊢; omega
theorem bulk_drop (L : List Str) (k : Nat) : bulk (L.drop k) ≤ bulk L := by
  induction L generalizing k with
  | nil => simp [bulk]
  | cons x r ih =>
    cases k with
    | zero => simp
    | succ k =>
      have h1 := ih k
      have h2 : bulk (x :: r) = x.length + 1 + bulk r := by simp [bulk]
      rw [List.drop_succ_cons, h2]; omega

/-- without its comment; p: behind a backslash -/
def cut1 : Bool → Str → Str
  | _, [] => []
  | p, c :: r => if c = 35 ∧ p = false then [] else c :: cut1 (c == 92) r
def repl : Str → Str
  | [] => []
  | [c] => [c]
  | c :: d :: r => if c = 92 ∧ d = 35 then 35 :: repl r else c :: repl (d :: r)
def unc (s : Str) : Str := trimr (repl (cut1 false s))
/-- with a backslash before each number sign -/
def esc : Str → Str
  | [] => []
  | c :: r => if c = 35 then 92 :: 35 :: esc r else c :: esc r
theorem cut1_le : ∀ (p : Bool) (s : Str), (cut1 p s).length ≤ s.length
  | _, [] => by simp [cut1]
  | p, c :: r => by have := cut1_le (c == 92) r; rw [cut1]; split <;> simp; omega
theorem repl_le : ∀ s : Str, (repl s).length ≤ s.length
  | [] => by simp [repl]
  | [c] => by simp [repl]
  | c :: d :: r => by
    have h1 := repl_le r; have h2 := repl_le (d :: r)
    rw [repl]; split <;> simp at * <;> omega
theorem unc_le (s : Str) : (unc s).length ≤ s.length := Nat.le_trans (trimr_le _) (Nat.le_trans (repl_le _) (cut1_le _ _))
theorem esc_le (s : Str) : (esc s).length ≤ 2 * s.length := by
  induction s with
  | nil => simp [esc]
  | cons c r ih => rw [esc]; split <;> simp <;> omega

/-- ReplaceAll's own recursion -/
theorem rep_hit {old new s : Str} (h0 : old ≠ []) (hn : (old == new) = false) (h : old.isPrefixOf s = true) : Lib.replaceAll s old new = new ++ Lib.replaceAll (s.drop old.length) old new := by
  have hi : Lib.index s old = 0 := by
    cases s with
    | nil => cases old with
      | nil => exact absurd rfl h0
      | cons _ _ => simp [List.isPrefixOf] at h
    | cons c r => rw [Lib.index, h]; simp
  have hc := Lib.count_hit (i := 0) h0 (by simpa using hi)
  unfold Lib.replaceAll Lib.replace Lib.replaceNum
  rw [hn]
  simp only [Bool.false_eq_true, if_false, show ((-1 : Int) < 0) from by decide, true_or, if_true]
  rw [hc, Nat.add_comm, Lib.replaceK_hit old new _ s 0 (by simpa using hi)]
  simp
theorem rep_miss {old new r : Str} {c : UInt8} (h0 : old ≠ []) (hn : (old == new) = false) (h : old.isPrefixOf (c :: r) = false) : Lib.replaceAll (c :: r) old new = c :: Lib.replaceAll r old new := by
  have hi : Lib.index (c :: r) old = if Lib.index r old == -1 then -1 else Lib.index r old + 1 := by rw [Lib.index, h]; simp
  unfold Lib.replaceAll Lib.replace Lib.replaceNum
  rw [hn]
  simp only [Bool.false_eq_true, if_false, show ((-1 : Int) < 0) from by decide, true_or, if_true]
  by_cases hm : Lib.index r old = -1
  · rw [Lib.count_miss hm, Lib.count_miss (by rw [hi, hm]; rfl)]; rfl
  · obtain ⟨i, hr⟩ : ∃ i : Nat, Lib.index r old = i := ⟨(Lib.index r old).toNat, by have := Lib.index_ge r old; omega⟩
    have e1 : ((i : Int) == -1) = false := by apply beq_false_of_ne; omega
    have hi' : Lib.index (c :: r) old = ((i + 1 : Nat) : Int) := by rw [hi, hr, e1]; simp
    rw [Lib.count_hit h0 hr, Lib.count_hit h0 hi', Nat.add_comm 1 (Lib.count (List.drop (i + List.length old) r) old), Nat.add_comm 1 (Lib.count (List.drop (i + 1 + List.length old) (c :: r)) old), Lib.replaceK_hit old new _ r i hr, Lib.replaceK_hit old new _ (c :: r) (i + 1) hi']
    simp [Nat.add_right_comm]
theorem rep_nil (old new : Str) (h0 : old ≠ []) : Lib.replaceAll [] old new = [] := by
  have hi : Lib.index [] old = -1 := by cases old with
    | nil => exact absurd rfl h0
    | cons _ _ => rfl
  unfold Lib.replaceAll Lib.replace Lib.replaceNum
  split
  · rfl
  · simp [Lib.count_miss hi, Lib.replaceK]
theorem repl_lib : ∀ s : Str, Lib.replaceAll s [92, 35] [35] = repl s
  | [] => rep_nil _ _ (by simp)
  | [c] => by
    rw [rep_miss (by simp) (by decide) (by simp [List.isPrefixOf]), rep_nil _ _ (by simp), repl]
  | c :: d :: r => by
    rw [repl]
    by_cases h : c = 92 ∧ d = 35
    · rw [if_pos h, rep_hit (by simp) (by decide) (by simp [List.isPrefixOf, h.1, h.2])]
      simp [repl_lib r]
    · rw [if_neg h, rep_miss (by simp) (by decide) (by
        rw [Bool.eq_false_iff]; intro k; simp [List.isPrefixOf] at k; exact h ⟨k.1.symm, k.2.symm⟩), repl_lib (d :: r)]
theorem esc_lib : ∀ s : Str, Lib.replaceAll s [35] [92, 35] = esc s
  | [] => rep_nil _ _ (by simp)
  | c :: r => by
    rw [esc]
    by_cases h : c = 35
    · rw [if_pos h, rep_hit (by simp) (by decide) (by simp [List.isPrefixOf, h])]
      simp [esc_lib r]
    · rw [if_neg h, rep_miss (by simp) (by decide) (by simp [List.isPrefixOf, Ne.symm h]), esc_lib r]

/-- the logical lines of the physical ones, from the number n on -/
def linesF : Nat → Nat → List Str → List Ln
  | 0, _, _ => []
  | f + 1, n, L => if L = [] then [] else (if unc (joinH L).1 = [] then [] else [(((n + 1 : Nat) : Int), unc (joinH L).1)]) ++ linesF f (n + (joinH L).2) (L.drop (joinH L).2)
def linesAt (n : Nat) (L : List Str) : List Ln := linesF L.length n L
theorem linesF_fuel : ∀ (f : Nat) (n : Nat) (L : List Str), L.length ≤ f → linesF f n L = linesF L.length n L
  | 0, n, L, h => by
    have : L = [] := List.length_eq_zero_iff.1 (by omega)
    subst this; rfl
  | f + 1, n, L, h => by
    cases L with
    | nil => simp [linesF]
    | cons x r =>
      have hp := joinH_pos x r
      simp only [linesF, List.length_cons]
      congr 2
      rw [linesF_fuel f _ _ (by simp at h ⊢; omega)]
      exact (linesF_fuel r.length _ _ (by simp; omega)).symm
  termination_by f => f
  decreasing_by all_goals simp_all <;> omega
theorem linesAt_nil (n : Nat) : linesAt n [] = [] := rfl
theorem linesAt_cons (n : Nat) (L : List Str) (h : L ≠ []) : linesAt n L = (if unc (joinH L).1 = [] then [] else [(((n + 1 : Nat) : Int), unc (joinH L).1)]) ++ linesAt (n + (joinH L).2) (L.drop (joinH L).2) := by
  obtain ⟨x, r, rfl⟩ := List.exists_cons_of_ne_nil h
  have hp := joinH_pos x r
  unfold linesAt
  simp only [List.length_cons]
  rw [linesF, if_neg (by simp)]
  congr 1
  exact linesF_fuel _ _ _ (by simp; omega)

/-- Join's answer -/
def joinR (s : Str) : List Ln × Int := if 20000 < s.length then ([], 2) else if s.all may then (linesAt 0 (phys s), 0) else ([], 3)
end Go.Proofs.YtebjofffijnihaaGreatDoor
