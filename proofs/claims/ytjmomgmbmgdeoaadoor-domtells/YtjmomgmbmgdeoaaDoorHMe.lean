/-
  Sets in memory: blocks of cells, rows of words handed in or of one's own, the numbers of a set. No condition.
-/
import Derived.Test.YtjmomgmbmgdeoaaDoorHPl
import Derived.Test.YtjmomgmbmgdeoaaDoorList
import Derived.Test.YtjmomgmbmgdeoaaDoorGPl
import Derived.Laws.OwnMore
import Derived.WalkSpells
import Derived.Deep.AppendLies
import Derived.Laws.Rows
import Derived.Laws.ResultCell
namespace Go.Proofs.YtjmomgmbmgdeoaaDoor
set_option maxRecDepth 100000
set_option linter.unusedVariables false
open Go.ChangeShapes Go.WideShapes Go.ChangeAt Go.RowKit

theorem add_off (g j : Nat) : (⟨g, 0, none⟩ : Addr).add j = ⟨g, j, none⟩ := by
  unfold Addr.add
  by_cases e : j = 0 <;> simp [e]
theorem addrW (g k j : Nat) : (⟨g, k, none⟩ : Addr).add j = ⟨g, k + j, none⟩ := by unfold Addr.add; by_cases h : j = 0 <;> simp [h]
/-- block k holds the cells xs -/
def Blk (k : Nat) (xs : Array Value) (t : TypeId) (w : World) : Prop := w.heap[k]? = some (.cells xs t (0, 0))
theorem Blk.lt {k : Nat} {xs : Array Value} {t : TypeId} {w : World} (h : Blk k xs t w) : k < w.heap.size := by
  rcases Nat.lt_or_ge k w.heap.size with h' | h'
  · exact h'
  · unfold Blk at h; simp [Array.getElem?_eq_none h'] at h
theorem Blk.cell {k : Nat} {xs : Array Value} {t : TypeId} {w : World} (h : Blk k xs t w) {i : Nat} {x : Value} (hi : xs[i]? = some x) : w.cell? ⟨k, i, none⟩ = some x := by
  unfold Blk at h
  unfold World.cell?
  simp [h, hi]
theorem Blk.free {k : Nat} {xs : Array Value} {t : TypeId} {w : World} (h : Blk k xs t w) (i : Nat) : w.frozen? ⟨k, i, none⟩ = false := by
  unfold Blk at h
  unfold World.frozen?
  simp [h]
theorem Blk.at {k : Nat} {xs : Array Value} {t : TypeId} {w w' : World} (h : Blk k xs t w) (hb : w'.heap[k]? = w.heap[k]?) : Blk k xs t w' := hb.trans h
theorem Blk.later {k : Nat} {xs : Array Value} {t : TypeId} {w w' : World} (h : Blk k xs t w) (hb : Below w.heap.size w w') : Blk k xs t w' := h.at (hb.block _ h.lt)
theorem blk_new (w : World) (xs : Array Value) (t : TypeId) : Blk w.heap.size xs t (w.alloc (.cells xs t)) := by unfold Blk; exact heap_alloc_new _ _
theorem Blk.alloc {k : Nat} {xs : Array Value} {t : TypeId} {w : World} (h : Blk k xs t w) (o : Obj) : Blk k xs t (w.alloc o) := h.at (Below.heap_alloc _ _ _ h.lt)
theorem Blk.other {k : Nat} {xs : Array Value} {t : TypeId} {w : World} (h : Blk k xs t w) {a : Addr} (ha : k ≠ a.block) (u : Value) : Blk k xs t (w.setCell a u) := h.at (Below.heap_setCell _ _ _ _ ha)
theorem Blk.set {k : Nat} {xs : Array Value} {t : TypeId} {w : World} (h : Blk k xs t w) (i : Nat) (u : Value) : Blk k (xs.setIfInBounds i u) t (w.setCell ⟨k, i, none⟩ u) := by
  unfold Blk at h ⊢
  have hk := Blk.lt h
  unfold World.setCell
  rw [Array.getElem?_modify]
  simp [h]
theorem blk_grown {k : Nat} {xs : Array Value} {t : TypeId} {w w' : World} {row : Option Nat} (h : Blk k xs t w) (g : w.grownBy w' row) (hr : ∀ q, row = some q → q < k) : Blk k xs t w' :=
  h.at (g.block k h.lt (fun e => by have := hr k e.symm; omega))
theorem below_drewN {B : Nat} {a w : World} (h : Below B a w) (n : Nat) : Below B a (w.drewN n) := ⟨h.os, h.tape, h.output, h.size, h.block⟩
def encW (s : Bv) : Value := .int .u64 (s.toNat : Int)
theorem infoW : (Tryd.prog.info? 35).map (fun i => (i.zero, i.size, i.bytes)) = some (some (.int .u64 0), 1, 8) := by kernel_rfl
def WO (B : Nat) (v : Value) (r : List Bv) (w : World) : Prop := w.ownsRow B 35 1 v r.length (r.map encW)
theorem wAt_get {r : List Bv} {i : Nat} (h : i < r.length) : (r.map encW)[i]? = some (.int .u64 ((wAt r i).toNat : Int)) := by
  unfold wAt
  rw [List.getElem?_map, List.getD, List.getElem?_eq_getElem h]; rfl
theorem orAt_map (r : List Bv) (i : Nat) (s : Bv) : (orAt r i s).map encW = (r.map encW).set i (encW (wAt r i ||| s)) := by
  unfold orAt; rw [List.map_set]
theorem WO.cell {B : Nat} {g c : Nat} {r : List Bv} {w : World} (h : WO B (.slice (some ⟨g, 0, none⟩) r.length c) r w) {i : Nat} (hi : i < r.length) : w.cell? ⟨g, i, none⟩ = some (.int .u64 ((wAt r i).toNat : Int)) := by
  rw [World.ownsRow.cellAt h i (by omega)]
  exact wAt_get hi
theorem WO.frozen {B : Nat} {g c : Nat} {r : List Bv} {w : World} (h : WO B (.slice (some ⟨g, 0, none⟩) r.length c) r w) (i : Nat) : w.frozen? ⟨g, i, none⟩ = false := World.ownsRow.frozenAt h i
theorem WO.store {B : Nat} {g c : Nat} {r : List Bv} {w : World} (h : WO B (.slice (some ⟨g, 0, none⟩) r.length c) r w) (i : Nat) (s : Bv) :
    WO B (.slice (some ⟨g, 0, none⟩) r.length c) (orAt r i s) (w.setCell ⟨g, i, none⟩ (.int .u64 ((wAt r i ||| s).toNat : Int))) ∧ w.grownBy (w.setCell ⟨g, i, none⟩ (.int .u64 ((wAt r i ||| s).toNat : Int))) (some g) := by
  have := World.ownsRow.stored h i (encW (wAt r i ||| s))
  refine ⟨?_, this.2⟩
  unfold WO
  rw [orAt_map, orAt_length]
  exact this.1
/-- a slice that holds the sets r -/
def WIn (w : World) (v : Value) (r : List Bv) : Prop :=
  ∃ a cap, v = .slice a r.length cap ∧ ∀ k, k < r.length → ∃ b off, a = some ⟨b, off, none⟩ ∧ w.cell? ⟨b, off + k, none⟩ = some (.int .u64 ((wAt r k).toNat : Int))
theorem WIn.later {w w' : World} {v : Value} {r : List Bv} (h : WIn w v r) (hb : Below w.heap.size w w') : WIn w' v r := by
  obtain ⟨a, cap, h1, h2⟩ := h
  refine ⟨a, cap, h1, fun k hk => ?_⟩
  obtain ⟨b, off, e, c⟩ := h2 k hk
  exact ⟨b, off, e, cell_later hb c⟩
theorem WO.win {B : Nat} {v : Value} {r : List Bv} {w : World} (h : WO B v r w) : WIn w v r := by
  rcases h.2 with ⟨hv, h0⟩ | ⟨g, cap, cur, hv, _⟩
  · exact ⟨none, 0, by rw [hv, h0], fun k hk => by omega⟩
  · refine ⟨_, cap, hv, fun k hk => ⟨g, 0, rfl, ?_⟩⟩
    subst hv
    rw [Nat.zero_add]
    exact WO.cell h hk
/-- a list of numbers in a block of its own -/
theorem list_blk {s : Bv} {w w' : World} {e : Ending} (h : ListPost s w e w') : e = .returned (.slice (some ⟨w.heap.size, 0, none⟩) (cnt s) (cnt s)) ∧ Below w.heap.size w w' ∧
    ∃ cur, Blk w.heap.size cur 3 w' ∧ ∀ (j n : Nat), (nums s)[j]? = some n → cur[j]? = some (.int .i64 (n : Int)) := by
  obtain ⟨h1, h2, h3⟩ := h
  refine ⟨h1, h3, ?_⟩
  rcases h2.2 with ⟨hv, _⟩ | ⟨g, cap, cur, hv, _, hg, _, _, _, ht⟩
  · simp at hv
  · simp only [Value.slice.injEq, Option.some.injEq, Addr.mk.injEq, and_true, true_and] at hv
    obtain ⟨rfl, _⟩ := hv
    refine ⟨cur, hg, fun j n hj => ?_⟩
    have e1 := ints_get _ _ _ hj
    rw [← ht, List.getElem?_take] at e1
    split at e1
    · simpa using e1
    · cases e1
theorem own_later {w w' : World} {B : Nat} {e : TypeId} {s : Nat} {v : Value} {n : Nat} {xs : List Value} (h : w.ownsRow B e s v n xs) (hb : Below w.heap.size w w') : w'.ownsRow B e s v n xs := by
  refine ⟨h.1, ?_⟩
  rcases h.2 with k | ⟨g, cap, cur, h1, h2, h3, r⟩
  · exact .inl k
  · have hl : g < w.heap.size := by
      rcases Nat.lt_or_ge g w.heap.size with h' | h'
      · exact h'
      · simp [Array.getElem?_eq_none h'] at h3
    exact .inr ⟨g, cap, cur, h1, h2, (hb.block g hl).trans h3, r⟩
theorem below_al (w : World) (o : Obj) : Below w.heap.size w (w.alloc o) := (Below.refl _ w).alloc (Nat.le_refl _) o
theorem zero_ne {c : Int} (h : c ≠ 0) : (c != 0) = true := bne_iff_ne.2 h
theorem zeros_w (n : Nat) : (madeCells (Value.cells (.int .u64 0)) (n * 1)).toList = (List.replicate n 0#64).map encW := by
  rw [Nat.mul_one, show Value.cells (.int .u64 0) = #[.int .u64 0] from rfl, toList_madeCells_one, List.map_replicate]; rfl
theorem one_walk (n : Nat) (h : n < 64) : IntKind.u64.wrap (2 ^ n) = ((one n).toNat : Int) := by
  rw [one_toNat n h, IntKind.wrap_u64]
  have hlt : 2 ^ n < 2 ^ 64 := Nat.pow_lt_pow_right (by omega) h
  have e : (2 : Int) ^ n = ((2 ^ n : Nat) : Int) := by simp
  rw [e]
  generalize 2 ^ n = x at *
  omega
theorem grown_belowG {B g : Nat} {w0 w w' : World} (h : Below B w0 w) (k : w.grownBy w' (some g)) (hB : B ≤ w.heap.size) (hg : B ≤ g) : Below B w0 w' :=
  h.grown k hB (fun q hq => by cases hq; exact hg)
theorem wo_base {B B' : Nat} {v : Value} {r : List Bv} {w : World} (h : WO B v r w) (hb : B' ≤ B) : WO B' v r w := by
  refine ⟨h.1, h.2.imp id ?_⟩
  rintro ⟨g, cap, cur, h1, h2, h3⟩
  exact ⟨g, cap, cur, h1, Nat.le_trans hb h2, h3⟩
theorem u64_of {n : Int} (h : (Lit.int .u64 n).wf = true) : ∃ s : Bv, n = (s.toNat : Int) := by
  simp [Lit.wf] at h
  have e0 : IntKind.u64.min = 0 := by decide +kernel
  have e1 : IntKind.u64.max = 18446744073709551615 := by decide +kernel
  rw [e0, e1] at h
  refine ⟨BitVec.ofInt 64 n, ?_⟩
  rw [BitVec.toNat_ofInt]
  omega
theorem below_grown' {B k : Nat} {w0 w w' : World} (h : Below B w0 w) (hg : w.grownBy w' (some k)) (hB : B ≤ w.heap.size) (hk : B ≤ k) : Below B w0 w' := h.grown hg hB (fun q hq => by cases hq; exact hk)
end Go.Proofs.YtjmomgmbmgdeoaaDoor
