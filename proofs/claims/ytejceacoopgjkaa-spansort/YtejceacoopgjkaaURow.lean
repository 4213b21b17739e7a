/-
  A row of uint64 that the call made, as an array of words: what a load reads, what an exchange leaves; cmp.Less at uint64. No condition.
-/
import Derived.Test.YtejceacoopgjkaaSum
import Derived.Sort.LotD3
import Derived.Sort.AssemblyPlain
import Derived.Laws.OwnMore
import Derived.OwnWalk
namespace Go.Proofs.Ytejceacoopgjkaa
open Go.ChangeShapes Go.WideShapes Go.ChangeAt Go.RowKit
open Go.Sort (swp PermIn SortedIn SWO)

def encU (s : Bv) : Value := .int .u64 (s.toNat : Int)
def ltU (x y : Bv) : Bool := decide (x.toNat < y.toNat)
theorem swoU : SWO ltU where
  irrefl x := decide_eq_false (by omega)
  trans x y z h1 h2 := by
    have := of_decide_eq_true h1
    have := of_decide_eq_true h2
    exact decide_eq_true (by omega)
  ntrans x y z h1 h2 := by
    have := of_decide_eq_false h1
    have := of_decide_eq_false h2
    exact decide_eq_false (by omega)

/-- the row at block g holds d; the world is w0 but for it and new blocks -/
def UR (base g cap : Nat) (w0 : World) (d : Array Bv) (w : World) : Prop :=
  w.ownsRow base 38 1 (.slice (some ⟨g, 0, none⟩) d.size cap) d.size (d.toList.map encU) ∧ w0.grownBy w (some g) ∧ g < w0.heap.size

section
variable {base g cap : Nat} {w0 w : World} {d : Array Bv}
theorem UR.cell (h : UR base g cap w0 d w) {i : Nat} (hi : i < d.size) : w.cell? ⟨g, i, none⟩ = some (.int .u64 ((d[i]!).toNat : Int)) := by
  rw [h.1.cellAt i (by omega), List.getElem?_map, Array.getElem?_toList, Array.getElem?_eq_getElem hi, getElem!_pos d i hi]; rfl
theorem UR.frozen (h : UR base g cap w0 d w) (i : Nat) : w.frozen? ⟨g, i, none⟩ = false := h.1.frozenAt i
theorem grown_trans' {a b c : World} {row : Option Nat} (h : a.grownBy b row) (k : b.grownBy c row) : a.grownBy c row :=
  ⟨k.os.trans h.os, k.tape.trans h.tape, k.output.trans h.output, Nat.le_trans h.size k.size, fun i hi hr => (k.block i (Nat.lt_of_lt_of_le hi h.size) hr).trans (h.block i hi hr)⟩
theorem UR.drewN (h : UR base g cap w0 d w) (m : Nat) : UR base g cap w0 d (w.drewN m) := ⟨h.1, ⟨h.2.1.os, h.2.1.tape, h.2.1.output, h.2.1.size, h.2.1.block⟩, h.2.2⟩
theorem UR.drew (h : UR base g cap w0 d w) : UR base g cap w0 d w.drew := h.drewN 1
theorem UR.alloc (h : UR base g cap w0 d w) (o : Obj) : UR base g cap w0 d (w.alloc o) := ⟨h.1.alloc o, grown_trans' h.2.1 (World.grownBy_alloc w o _), h.2.2⟩
theorem set_map (d : Array Bv) (i : Nat) (x : Bv) : (d.toList.map encU).set i (encU x) = ((d.setIfInBounds i x).toList.map encU) := by
  rw [Array.toList_setIfInBounds, List.map_set]
theorem UR.store (h : UR base g cap w0 d w) (i : Nat) (x : Bv) : UR base g cap w0 (d.setIfInBounds i x) (w.setCell ⟨g, i, none⟩ (encU x)) := by
  have := h.1.stored i (encU x)
  rw [set_map] at this
  refine ⟨by simpa using this.1, grown_trans' h.2.1 this.2, h.2.2⟩
theorem UR.swap (h : UR base g cap w0 d w) (i j : Nat) : UR base g cap w0 (swp d i j) ((w.setCell ⟨g, i, none⟩ (.int .u64 ((d[j]!).toNat : Int))).setCell ⟨g, j, none⟩ (.int .u64 ((d[i]!).toNat : Int))) := (h.store i d[j]!).store j d[i]!
end

theorem isNaN_any (x : Bv) (w : World) : Calls Try.prog 78 #[.int .u64 (x.toNat : Int)] w fun e w' => e = .returned (.bool false) ∧ w = w' := by
  go_enter Try.func78, Try.ntmps78
  go_wp2
  go_ret
  exact ⟨ret_b (by simp), rfl⟩
theorem less_any (x y : Bv) (w : World) : Calls Try.prog 60 #[.int .u64 (x.toNat : Int), .int .u64 (y.toNat : Int)] w fun e w' => e = .returned (.bool (ltU x y)) ∧ w' = w := by
  go_enter Try.func60, Try.ntmps60
  go_wp2_with fail
  refine (isNaN_any _ _).mono ?_
  rintro e w' ⟨rfl, rfl⟩
  go_wp2
  go_ret
  exact ⟨ret_b (by simp [ltU]), rfl⟩

set_option maxHeartbeats 2000000 in
theorem reverse_any (base g cap a b : Nat) (w0 : World) (d : Array Bv) (w : World) (h : UR base g cap w0 d w) (hab : a ≤ b) (hb : b ≤ d.size) (hn : d.size ≤ 4611686018427387904) :
    Calls Try.prog 58 #[.slice (some ⟨g, 0, none⟩) d.size cap, .int .i64 a, .int .i64 b] w fun e w' => e = .returned (.tuple #[]) ∧ ∃ d', PermIn a b d d' ∧ UR base g cap w0 d' w' := by
  have H := Lib.hid h; clear h
  go_enter Try.func58, Try.ntmps58
  go_wp2_with fail
  go_loopw [6, 7] (fun vi vj wr => ∃ (i : Nat) (j : Int) (dk : Array Bv), vi = .int .i64 i ∧ vj = .int .i64 j ∧ a ≤ i ∧ i ≤ b ∧ j < b ∧ -1 ≤ j ∧ PermIn a b d dk ∧ UR base g cap w0 dk wr) (fun _ vj _ => (intOf vj + 1).toNat)
  case atStart => exact ⟨a, (b : Int) - 1, d, rfl, by go_num, by omega, by omega, by omega, by omega, Go.Sort.permIn_refl _ _ _, H.out⟩
  case round =>
    obtain ⟨i, j, dk, rfl, rfl, hai, hib, hjb, hj0, hp, hu⟩ := hrel
    have HP := Lib.hid hp; clear hp
    have HU := Lib.hid hu; clear hu
    have hsz : dk.size = d.size := HP.out.1
    by_cases hlt : (i : Int) < j
    · obtain ⟨jn, rfl⟩ : ∃ jn : Nat, j = (jn : Int) := ⟨j.toNat, by omega⟩
      have c1 := HU.out.cell (i := i) (by omega)
      have c2 := HU.out.cell (i := jn) (by omega)
      have f1 := HU.out.frozen i
      have f2 := HU.out.frozen jn
      have SW : Hid _ := HU.out.swap i jn
      generalize ((dk[i]!).toNat : Int) = x at c1 SW
      generalize ((dk[jn]!).toNat : Int) = y at c2 SW
      have hne : i ≠ jn := by omega
      go_wp2_with fail
      go_region
      go_wp2
      go_roundw
      case rel => exact ⟨i + 1, (jn : Int) - 1, swp dk i jn, by go_num, by go_num, by omega, by omega, by omega, by omega, Go.Sort.permIn_trans _ _ _ a b HP.out (Go.Sort.swp_permIn dk a b i jn (by omega) (by omega) (by omega) (by omega) (by omega)), UR.drew SW.out⟩
      case measure => simp [intOf]
    · go_wp2
      go_end0
      exact ⟨rfl, dk, HP.out, HU.out⟩
end Go.Proofs.Ytejceacoopgjkaa
