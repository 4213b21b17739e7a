/-
  What package name's Check and the reference's GoodName answer: whether a string is a name. No condition.
-/
import Derived.Test.YtpjcdfphllbonaaDoorLs
import Derived.Test.YtpjcdfphllbonaaDoorRows
import Derived.WalkKit
import Derived.ProofKit
import Derived.OpenShut
import Derived.Handy
import Derived.BigQuiet
import Derived.Deep.QuietTactic
import Derived.Lib.Hide
import Derived.WalkLawsBesides
import Derived.Laws.Externs
import Derived.Lib.Bytealg
namespace Go.Proofs.YtpjcdfphllbonaaDoor
set_option maxRecDepth 100000
open Go.ChangeShapes Go.WideShapes Go.ChangeAt Go.RowKit

theorem ret_i {k : IntKind} {a b : Int} (h : a = b) : Ending.returned (.int k a) = .returned (.int k b) := by rw [h]
theorem ret_b {a b : Bool} (h : a = b) : Ending.returned (.bool a) = .returned (.bool b) := by rw [h]

/-- may a name hold the byte? -/
def okB (c : Nat) : Bool := decide (97 ≤ c ∧ c ≤ 122 ∨ 65 ≤ c ∧ c ≤ 90 ∨ 48 ≤ c ∧ c ≤ 57 ∨ c = 95 ∨ c = 46 ∨ c = 47 ∨ c = 45 ∨ c = 43)
/-- is it a name? -/
def good (l : List UInt8) : Bool := decide (0 < l.length ∧ l.length ≤ 40) && l.all fun c => okB c.toNat
def errOf (b : Bool) : Int := if b then 0 else 3

/-- a string's bytes as numbers -/
def byteAt (s : ByteArray) (k : Nat) : Nat := (s.data.toList.getD k 0).toNat
theorem byteAt_get (s : ByteArray) (k : Nat) (h : k < s.size) : s[k].toNat = byteAt s k := by
  have h' : k < s.data.size := h
  unfold byteAt
  rw [show s[k] = s.data[k] from rfl]
  rw [List.getD, Array.getElem?_toList, Array.getElem?_eq_getElem h']; rfl
theorem byteAt_lt (s : ByteArray) (k : Nat) : byteAt s k < 256 := UInt8.toNat_lt _
theorem size_list (s : ByteArray) : s.data.toList.length = s.size := Array.length_toList

theorem good_all {s : ByteArray} (h0 : 0 < s.size) (h1 : s.size ≤ 40) (h : ∀ j, j < s.size → okB (byteAt s j) = true) : good s.data.toList = true := by
  unfold good
  rw [size_list, decide_eq_true ⟨h0, h1⟩, Bool.true_and, List.all_eq_true]
  intro x hx
  obtain ⟨i, hi, rfl⟩ := List.getElem_of_mem hx
  have := h i (by rw [← size_list]; exact hi)
  unfold byteAt at this
  rwa [List.getD, List.getElem?_eq_getElem hi] at this
theorem good_bad {s : ByteArray} {k : Nat} (hk : k < s.size) (h : okB (byteAt s k) = false) : good s.data.toList = false := by
  unfold good
  rw [Bool.and_eq_false_iff]
  right
  rw [List.all_eq_false]
  have hi : k < s.data.toList.length := by rw [size_list]; exact hk
  refine ⟨s.data.toList[k], List.getElem_mem hi, ?_⟩
  unfold byteAt at h
  rw [List.getD, List.getElem?_eq_getElem hi] at h
  simpa using h
theorem good_size {s : ByteArray} (h : ¬ (0 < s.size ∧ s.size ≤ 40)) : good s.data.toList = false := by
  unfold good
  rw [size_list, decide_eq_false h]; rfl
theorem good_len {l : List UInt8} (h : good l = true) : 0 < l.length ∧ l.length ≤ 40 := by
  unfold good at h
  rw [Bool.and_eq_true] at h
  exact of_decide_eq_true h.1

/-! IndexByte -/
set_option maxRecDepth 100000 in
theorem idxLite_any (s : ByteArray) (c : Int) (w : World) :
    Calls Tryd.prog 71 #[.string s, .int .u8 c] w fun e w' => e = .returned (.int .i64 (Lib.indexByte s.data.toList c.toNat.toUInt8)) ∧ w' = w := by
  go_enter Tryd.func71, Tryd.ntmps71
  go_wp2
  rw [run_callFunc_extern Tryd.func72 (by kernel_rfl) (by kernel_rfl) (by kernel_rfl) (e := Extern.BytealgIndexByte.indexByte) (by kernel_rfl), Lib.run_indexByteString]
  simp only [Result.andThen]
  rw [Oper.upon_value]
  go_wp2
  go_ret
  exact ⟨rfl, rfl⟩
set_option maxRecDepth 100000 in
theorem idxByte_any (s : ByteArray) (c : Int) (w : World) :
    Calls Tryd.prog 69 #[.string s, .int .u8 c] w fun e w' => e = .returned (.int .i64 (Lib.indexByte s.data.toList c.toNat.toUInt8)) ∧ w' = w := by
  go_enter Tryd.func69, Tryd.ntmps69
  go_wp2_with fail
  refine (idxLite_any _ _ _).mono ?_
  rintro e w' ⟨rfl, rfl⟩
  go_wp2
  go_ret
  exact ⟨rfl, rfl⟩

theorem idx5 : ∀ n : Fin 256, decide (0 ≤ Lib.indexByte [95, 46, 47, 45, 43] ((n.val : Int).toNat.toUInt8)) = decide (n.val = 95 ∨ n.val = 46 ∨ n.val = 47 ∨ n.val = 45 ∨ n.val = 43) := by decide +kernel

set_option maxHeartbeats 1000000 in
theorem may_any (c : Nat) (h : c < 256) (w : World) :
    Calls Tryd.prog 65 #[.int .u8 (c : Int)] w fun e w' => e = .returned (.bool (okB c)) ∧ w' = w := by
  by_cases h1 : 97 ≤ c ∧ c ≤ 122
  · have e : Hid (okB c = true) := decide_eq_true (.inl h1)
    obtain ⟨a, b⟩ := h1
    go_enter Tryd.func65, Tryd.ntmps65
    go_wp2
    go_ret
    exact ⟨ret_b e.out.symm, rfl⟩
  by_cases h2 : 65 ≤ c ∧ c ≤ 90
  · have e : Hid (okB c = true) := decide_eq_true (.inr (.inl h2))
    have a : ¬ 97 ≤ c := by omega
    obtain ⟨a2, b2⟩ := h2
    clear h1
    go_enter Tryd.func65, Tryd.ntmps65
    go_wp2
    go_ret
    exact ⟨ret_b e.out.symm, rfl⟩
  by_cases h3 : 48 ≤ c ∧ c ≤ 57
  · have e : Hid (okB c = true) := decide_eq_true (.inr (.inr (.inl h3)))
    have a : ¬ 97 ≤ c := by omega
    have a1 : ¬ 65 ≤ c := by omega
    obtain ⟨a2, b2⟩ := h3
    clear h1 h2
    go_enter Tryd.func65, Tryd.ntmps65
    go_wp2
    go_ret
    exact ⟨ret_b e.out.symm, rfl⟩
  · have e : Hid (okB c = decide (0 ≤ Lib.indexByte [95, 46, 47, 45, 43] ((c : Int).toNat.toUInt8))) := by
      have := idx5 ⟨c, h⟩
      show _ = _
      refine Eq.trans (b := decide (c = 95 ∨ c = 46 ∨ c = 47 ∨ c = 45 ∨ c = 43)) ?_ this.symm
      unfold okB
      exact decide_eq_decide.2 ⟨fun k => by omega, fun k => by omega⟩
    have H1 := Lib.hid h1
    have H2 := Lib.hid h2
    have H3 := Lib.hid h3
    clear h1 h2 h3
    have step : ∀ (P : Prop), (¬ 97 ≤ c → ¬ 65 ≤ c → ¬ 48 ≤ c → P) → (¬ 97 ≤ c → ¬ 65 ≤ c → 48 ≤ c → ¬ c ≤ 57 → P) → (¬ 97 ≤ c → 65 ≤ c → ¬ c ≤ 90 → ¬ c ≤ 57 → 48 ≤ c → P) → (97 ≤ c → ¬ c ≤ 122 → 65 ≤ c → ¬ c ≤ 90 → ¬ c ≤ 57 → 48 ≤ c → P) → P := fun P p1 p2 p3 p4 => by
      have := H1.out; have := H2.out; have := H3.out
      by_cases a : 97 ≤ c
      · exact p4 a (by omega) (by omega) (by omega) (by omega) (by omega)
      by_cases b : 65 ≤ c
      · exact p3 a b (by omega) (by omega) (by omega)
      by_cases d : 48 ≤ c
      · exact p2 a b d (by omega)
      · exact p1 a b d
    refine step _ ?_ ?_ ?_ ?_ <;> clear step H1 H2 H3 <;> intros
    all_goals
      go_enter Tryd.func65, Tryd.ntmps65
      go_wp2_with fail
      refine (idxByte_any _ _ _).mono ?_
      rintro e' w' ⟨rfl, rfl⟩
      have e2 := e.out
      generalize Lib.indexByte _ _ = q at e2 ⊢
      go_wp2
      go_ret
      exact ⟨ret_b (by rw [e2]), rfl⟩

set_option maxHeartbeats 1000000 in
theorem check_any (s : ByteArray) (w : World) (hs : s.size ≤ 9223372036854775807) :
    Calls Tryd.prog 55 #[.string s] w fun e w' => e = .returned (.int .i64 (errOf (good s.data.toList))) ∧ w' = w := by
  by_cases h0 : s.size = 0
  · have e : Hid (good s.data.toList = false) := good_size (by omega)
    have t : ((s.size : Int) == 0) = true := by simp [h0]
    clear h0
    go_enter Tryd.func55, Tryd.ntmps55
    go_wp2
    go_ret
    rw [e.out]; exact ⟨rfl, rfl⟩
  have t : ((s.size : Int) == 0) = false := by rw [beq_eq_false_iff_ne]; omega
  by_cases h1 : 40 < s.size
  · have e : Hid (good s.data.toList = false) := good_size (by omega)
    clear h0
    go_enter Tryd.func55, Tryd.ntmps55
    go_wp2
    go_ret
    rw [e.out]; exact ⟨rfl, rfl⟩
  have HF : Hid (∀ k (h : k < s.size), s[k].toNat = byteAt s k) := byteAt_get s
  have HL : Hid (∀ k, byteAt s k < 256) := byteAt_lt s
  have HG : Hid ((∀ j, j < s.size → okB (byteAt s j) = true) → good s.data.toList = true) := fun h => good_all (by omega) (by omega) h
  have HN : Hid (∀ k, k < s.size → okB (byteAt s k) = false → good s.data.toList = false) := fun k hk h => good_bad hk h
  generalize byteAt s = f at *
  generalize good s.data.toList = G at *
  clear h0
  go_enter Tryd.func55, Tryd.ntmps55
  go_wp2_with fail
  go_loopw [14] (fun i wr => ∃ k : Nat, k ≤ s.size ∧ i = .int .i64 (k : Int) ∧ (∀ j, j < k → okB (f j) = true) ∧ wr = w) (fun i _ => s.size - (intOf i).toNat)
  case atStart => exact ⟨0, by omega, rfl, fun _ h => absurd h (Nat.not_lt_zero _), rfl⟩
  case round =>
    obtain ⟨k, hk, rfl, hall, rfl⟩ := hrel
    have HA := Lib.hid hall; clear hall
    by_cases hlt : k < s.size
    · have hb := HF.out k hlt
      go_wp2_with fail
      clear hb
      refine (may_any _ (HL.out k) _).mono ?_
      rintro e w' ⟨rfl, rfl⟩
      cases hd : okB (f k) with
      | false =>
        have HD := Lib.hid (HN.out k hlt hd); clear hd
        go_wp2
        go_ret
        rw [HD.out]; exact ⟨rfl, rfl⟩
      | true =>
        have HD := Lib.hid hd; clear hd
        go_wp2
        go_roundw
        case rel =>
          refine ⟨k + 1, by omega, by go_num, fun j hj => ?_, trivial⟩
          rcases Nat.lt_succ_iff_lt_or_eq.1 hj with h | h
          · exact HA.out j h
          · rw [h]; exact HD.out
        case measure => simp [intOf]; omega
    · obtain rfl : k = s.size := by omega
      have HD := Lib.hid (HG.out HA.out)
      go_wp2
      go_ret
      rw [HD.out]; exact ⟨rfl, rfl⟩
end Go.Proofs.YtpjcdfphllbonaaDoor
