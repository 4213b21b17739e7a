/-
  Package knot: smallest, ready, ordered, ringIn, Order, Ring; slices.Index at numbers; the laws' knots. Condition: the table of math/bits lies in memory as its text lays it (the card ties this).
-/
import Derived.Test.YtjmomgmbmgdeoaaDoorHGd
import Derived.Test.YtjmomgmbmgdeoaaDoorHKs
namespace Go.Proofs.YtjmomgmbmgdeoaaDoor
set_option maxRecDepth 100000
set_option linter.unusedVariables false
open Go.ChangeShapes Go.WideShapes Go.ChangeAt Go.RowKit

/-! numbers in memory -/
def iAt (l : List Nat) (k : Nat) : Nat := l.getD k 0
theorem iAt_get {l : List Nat} {k n : Nat} (h : l[k]? = some n) : iAt l k = n := by unfold iAt; rw [List.getD, h]; rfl
theorem get_iAt {l : List Nat} {k : Nat} (h : k < l.length) : l[k]? = some (iAt l k) := by unfold iAt; rw [List.getD, List.getElem?_eq_getElem h]; rfl
/-- a row of numbers of one's own -/
def NO (B : Nat) (v : Value) (l : List Nat) (w : World) : Prop := w.ownsRow B 3 1 v l.length (ints l)
/-- a slice that holds the numbers l -/
def NI (w : World) (v : Value) (l : List Nat) : Prop :=
  ∃ a cap, v = .slice a l.length cap ∧ l.length ≤ cap ∧ ∀ k, k < l.length → ∃ b off, a = some ⟨b, off, none⟩ ∧ w.cell? ⟨b, off + k, none⟩ = some (.int .i64 ((iAt l k : Nat) : Int))
theorem NI.later {w w' : World} {v : Value} {l : List Nat} (h : NI w v l) (hb : Below w.heap.size w w') : NI w' v l := by
  obtain ⟨a, cap, h1, h3, h2⟩ := h
  refine ⟨a, cap, h1, h3, fun k hk => ?_⟩
  obtain ⟨b, off, e, c⟩ := h2 k hk
  exact ⟨b, off, e, cell_later hb c⟩
theorem NO.cell {B : Nat} {g c : Nat} {l : List Nat} {w : World} (h : NO B (.slice (some ⟨g, 0, none⟩) l.length c) l w) {i : Nat} (hi : i < l.length) : w.cell? ⟨g, i, none⟩ = some (.int .i64 ((iAt l i : Nat) : Int)) := by
  rw [World.ownsRow.cellAt h i (by omega)]
  exact ints_get _ _ _ (get_iAt hi)
theorem NO.ni {B : Nat} {v : Value} {l : List Nat} {w : World} (h : NO B v l w) : NI w v l := by
  rcases h.2 with ⟨hv, h0⟩ | ⟨g, cap, cur, hv, _, _, hn, _⟩
  · exact ⟨none, 0, by rw [hv, h0], by omega, fun k hk => by omega⟩
  · refine ⟨_, cap, hv, hn, fun k hk => ⟨g, 0, rfl, ?_⟩⟩
    subst hv
    rw [Nat.zero_add]
    exact NO.cell h hk
theorem NO.shape {B : Nat} {v : Value} {l : List Nat} {w : World} (h : NO B v l w) : ∃ a c, v = .slice a l.length c ∧ l.length ≤ c ∧ (0 < l.length → ∃ g, a = some ⟨g, 0, none⟩) := by
  rcases h.2 with ⟨hv, h0⟩ | ⟨g, cap, cur, hv, _, _, hn, _⟩
  · exact ⟨none, 0, by rw [hv, h0], by omega, fun hk => by omega⟩
  · exact ⟨_, cap, hv, hn, fun _ => ⟨g, rfl⟩⟩
theorem NO.drop {B : Nat} {g c : Nat} {l : List Nat} {w : World} (h : NO B (.slice (some ⟨g, 0, none⟩) l.length c) l w) {k : Nat} (hk : k ≤ l.length) (hc : l.length ≤ c) : NI w (.slice (some ⟨g, k, none⟩) (l.length - k) (c - k)) (l.drop k) := by
  refine ⟨_, c - k, by rw [List.length_drop], by rw [List.length_drop]; omega, fun i hi => ⟨g, k, rfl, ?_⟩⟩
  rw [List.length_drop] at hi
  rw [NO.cell h (by omega)]
  unfold iAt
  rw [List.getD, List.getD, List.getElem?_drop]
theorem ni_nil (w : World) : NI w (.slice none 0 0) [] := ⟨none, 0, rfl, Nat.le_refl _, fun k hk => absurd hk (Nat.not_lt_zero _)⟩
theorem no_nil (B : Nat) (w : World) : NO B (.slice none 0 0) [] w := World.ownsRow_nil _ _ _ _
theorem no_later {w w' : World} {B : Nat} {v : Value} {l : List Nat} (h : NO B v l w) (hb : Below w.heap.size w w') : NO B v l w' := own_later h hb

/-! smallest -/
theorem head_post {s : Bv} {w w' : World} {e : Ending} (h : NextPost s (clamp 0) w e w') : ∃ is : Bool, e = .returned (.tuple #[.int .i64 ((headW s : Nat) : Int), .bool is]) ∧ w' = w := by
  rw [show clamp 0 = 0 from clamp_nat 0 (by omega)] at h
  obtain ⟨h1, ⟨h2, h3⟩ | ⟨m, h2, h3, _, h5, h6⟩⟩ := h
  · refine ⟨false, ?_, h1.symm⟩
    have : s = 0#64 := bv_ext fun i hi => by rw [h3 i (Nat.zero_le _) hi]; simp
    rw [this, headW_zero]; exact h2
  · refine ⟨true, ?_, h1.symm⟩
    rw [headW_least ⟨h3, h5, fun i hi => h6 i (Nat.zero_le _) hi⟩]; exact h2
/-! ready -/
/-! ordered -/
theorem ret_vn {v : Value} {a b : Nat} (h : a = b) : Ending.returned (.tuple #[v, .int .u64 (a : Int)]) = .returned (.tuple #[v, .int .u64 (b : Int)]) := by rw [h]
theorem no_len {B : Nat} {v : Value} {l : List Nat} {w : World} (h : NO B v l w) : lenOf v = l.length := by
  obtain ⟨a, c, rfl, _⟩ := h.shape; rfl
/-! slices.Index at numbers -/
/-! ringIn -/
/-! Order, Ring -/
/-- what Order hands back -/
def OrdPost (r : List Bv) (w : World) (e : Ending) (w' : World) : Prop :=
  Below w.heap.size w w' ∧ ∃ u, e = .returned (.tuple #[u, .int .i64 (ordC r)]) ∧ NO w.heap.size u (ordL r) w'
/-- what Ring hands back -/
def RingPost (r : List Bv) (w : World) (e : Ending) (w' : World) : Prop :=
  Below w.heap.size w w' ∧ ∃ u l, e = .returned (.tuple #[u, .int .i64 (ringC r)]) ∧ NI w' u l ∧ (ringC r = 0 → RingL r l) ∧ (ringC r ≠ 0 → l = [])
theorem ret_vi {v : Value} {a b : Int} (h : a = b) : Ending.returned (.tuple #[v, .int .i64 a]) = .returned (.tuple #[v, .int .i64 b]) := by rw [h]
/-! the laws' knots -/
theorem k0_in : RowsIn [2#64, 0#64] := by
  refine ⟨by decide, fun i => ?_⟩
  match i with
  | 0 => exact setIn_iff.2 (by decide +kernel)
  | 1 => exact setIn_iff.2 (by decide +kernel)
  | i + 2 => intro k _; rw [wAt_ge (by simp)]; simp
theorem k0_ord : ordR [2#64, 0#64] = [1, 0] := by decide +kernel
theorem k0_c : ordC [2#64, 0#64] = 0 := ordC_ok (ckR_rows k0_in) (by rw [k0_ord]; rfl)
theorem k0_l : ordL [2#64, 0#64] = [1, 0] := by rw [ordL_ok k0_c, k0_ord]
end Go.Proofs.YtjmomgmbmgdeoaaDoor
