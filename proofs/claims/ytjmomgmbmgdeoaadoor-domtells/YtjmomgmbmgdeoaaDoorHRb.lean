/-
  Package reach: the reversed rows, From, Within, Back, Close, Between. Condition: the table of math/bits lies in memory as its text lays it (the card ties this).
-/
import Derived.Test.YtjmomgmbmgdeoaaDoorHRa
namespace Go.Proofs.YtjmomgmbmgdeoaaDoor
set_option maxRecDepth 100000
set_option linter.unusedVariables false
open Go.ChangeShapes Go.WideShapes Go.ChangeAt Go.RowKit

theorem win_one (w : World) (s : Bv) (t : TypeId) : WIn (w.alloc (.cells #[.int .u64 (s.toNat : Int)] t)) (.slice (some ⟨w.heap.size, 0, none⟩) 1 1) [s] :=
  ⟨_, 1, rfl, fun k hk => ⟨w.heap.size, 0, rfl, by
    obtain rfl : k = 0 := by simpa using hk
    exact (blk_new w #[.int .u64 (s.toNat : Int)] t).cell rfl⟩⟩
theorem win_two (w : World) (a b : Bv) (t : TypeId) : WIn (w.alloc (.cells #[.int .u64 (a.toNat : Int), .int .u64 (b.toNat : Int)] t)) (.slice (some ⟨w.heap.size, 0, none⟩) 2 2) [a, b] :=
  ⟨_, 2, rfl, fun k hk => ⟨w.heap.size, 0, rfl, by
    have B := blk_new w #[.int .u64 (a.toNat : Int), .int .u64 (b.toNat : Int)] t
    match k, hk with
    | 0, _ => exact B.cell rfl
    | 1, _ => exact B.cell rfl
    | k + 2, hk => exact absurd hk (by simp)⟩⟩
theorem ret_uc {a b : Bv} {c d : Int} (h : a = b) (k : c = d) : Ending.returned (.tuple #[.int .u64 (a.toNat : Int), .int .i64 c]) = .returned (.tuple #[.int .u64 (b.toNat : Int), .int .i64 d]) := by rw [h, k]

/-! From, Within -/
set_option maxHeartbeats 4000000 in
theorem from_any {w : World} {v : Value} {r : List Bv} (s : Bv) (h : WIn w v r) (ht : Tab w) :
    Calls Tryd.prog 17 #[v, .int .u64 (s.toNat : Int)] w fun e w' => e = .returned (.tuple #[.int .u64 ((frR r s).toNat : Int), .int .i64 (ckW r [s])]) ∧ Below w.heap.size w w' := by
  have CK := Lib.hid (fun T => checkWith_any (h.later (below_al w (.cells #[.int .u64 (s.toNat : Int)] T))) (win_one w s T) (by simp))
  have RE := Lib.hid (fun W (hW : Below w.heap.size w W) (hr : RowsIn r) (hs : SetIn r.length s) => reached_any s (h.later hW) hr hs (ht.below hW ht.1))
  have BD : Hid (ckW r [s] ≠ 0 → frR r s = 0#64) := frR_bad
  have OK : Hid (ckW r [s] = 0 → (RowsIn r ∧ SetIn r.length s) ∧ frR r s = allR r s) := fun h => ⟨ckW_one.1 h, frR_ok h⟩
  have WA := Lib.hid (fun T => below_al w (.cells #[.int .u64 (s.toNat : Int)] T))
  obtain ⟨a, c, rfl, _⟩ := h
  clear ht
  generalize ckW r [s] = C at *
  generalize frR r s = X at *
  generalize allR r s = A at *
  generalize r.length = L at *
  go_enter Tryd.func17, Tryd.ntmps17
  go_wp2_with fail
  refine (CK.out _).mono ?_
  rintro e w2 ⟨rfl, rfl⟩
  by_cases hc : C = 0
  · subst hc
    obtain ⟨⟨s1, s2⟩, s3⟩ := OK.out rfl
    have EE := Lib.hid s3
    have RE1 := Lib.hid (fun T => RE.out _ (WA.out T) s1 s2)
    clear s1 s2 s3 OK BD RE
    go_wp2_with fail
    refine (RE1.out _).mono ?_
    rintro e w3 ⟨rfl, b3⟩
    have B3 := Lib.hid ((WA.out _).trans (b3.mono (WA.out _).size))
    clear b3
    go_wp2
    go_ret2
    exact ⟨ret_uc EE.out.symm rfl, B3.out⟩
  · have t1 := zero_ne hc
    have EE := Lib.hid (BD.out hc)
    clear hc OK BD RE
    go_wp2
    go_ret2
    exact ⟨ret_uc (a := 0#64) EE.out.symm rfl, WA.out _⟩
/-! the reversed rows -/
end Go.Proofs.YtjmomgmbmgdeoaaDoor
