/-
  slices.SortFunc at numbers, compared by how many each dominates. No condition.
-/
import Derived.Test.YtjmomgmbmgdeoaaDoorHDb
import Derived.Test.YtjmomgmbmgdeoaaDoorLaysA
import Derived.Lib.OwnBridge
import Derived.Lib.AppendIntMem
namespace Go.Proofs.YtjmomgmbmgdeoaaDoor
set_option maxRecDepth 100000
set_option linter.unusedVariables false
open Go.ChangeShapes Go.WideShapes Go.ChangeAt Go.RowKit

theorem swoD (R : List Bv) : Go.Sort.SWO (ltOf (cfD R)) where
  irrefl x := by unfold ltOf; rw [ltD]; exact decide_eq_false (by omega)
  trans x y z h1 h2 := by
    unfold ltOf at *
    rw [ltD] at *
    have := of_decide_eq_true h1
    have := of_decide_eq_true h2
    exact decide_eq_true (by omega)
  ntrans x y z h1 h2 := by
    unfold ltOf at *
    rw [ltD] at *
    have := of_decide_eq_false h1
    have := of_decide_eq_false h2
    exact decide_eq_false (by omega)
theorem encD_ints {L : Nat} : ∀ {l : List Nat}, (∀ a ∈ l, a < L) → l.map (encD L) = ints l
  | [], _ => rfl
  | a :: l, h => by
    rw [List.map_cons, encD_ints (fun b hb => h b (List.mem_cons_of_mem _ hb))]
    unfold encD
    rw [Nat.mod_eq_of_lt (h a (List.mem_cons_self ..))]; rfl
theorem sortD_any {w0 w : World} {v : Value} {R : List Bv} {l : List Nat} {q b c : Nat} (h : WIn w0 v R) (hq : w0.cell? ⟨q, 0, none⟩ = some v) (h0 : 0 < R.length) (hl : R.length ≤ 64) (hb : Below w0.heap.size w0 w)
    (o : NO w0.heap.size (.slice (some ⟨b, 0, none⟩) l.length c) l w) (hx : ∀ a ∈ l, a < R.length) (hll : l.length ≤ 64) :
    Calls Tryd.prog 35 #[.slice (some ⟨b, 0, none⟩) l.length c, .func (.func 36) #[] #[.pointer (some ⟨q, 0, none⟩)]] w fun e w' =>
      e = .returned (.tuple #[]) ∧ ∃ d : Array Nat, Go.Sort.PermIn 0 l.length l.toArray d ∧ Go.Sort.SortedIn (fun x y => decide (keyD R y < keyD R x)) 0 l.length d ∧ NO w0.heap.size (.slice (some ⟨b, 0, none⟩) l.length c) d.toList w' ∧ Below w0.heap.size w0 w' := by
  have hlt := World.ownsRow.lt o b rfl
  have hBb : w0.heap.size ≤ b := hlt.1
  have hbw : b < w.heap.size := hlt.2
  have o1 : w.ownsRow w0.heap.size 3 1 (.slice (some ⟨b, 0, none⟩) l.length c) l.length (l.map (encD R.length)) := by
    rw [encD_ints hx]; exact o
  have hs : l.toArray.size = l.length := by simp
  have eg : ∀ args w, (callFunc 36 args).run Tryd.prog w = .ok (.enter 36 args) w := enters_of Tryd.func36 (by kernel_rfl) rfl
  have BW : ∀ m (dk : Array Nat) os, Below w0.heap.size w0 (sortWorld (encD R.length) w b 0 m dk os) := fun m dk os =>
    (Lib.below_putRow (enc := encD R.length) (q := m) (d := dk) hb hBb).trans (Lib.below_grow _ _ (by rw [size_putRow]; exact hb.size) 0 os)
  have hcmp : CmpLays1 Tryd.prog 36 #[.pointer (some ⟨q, 0, none⟩)] (encD R.length) (cfD R) b 0 l.toArray.size w :=
    CmpReads.lays fun m os dk _ x y => cmpD_any (h.later (BW m dk os)) (cell_later (BW m dk os) hq) h0 hl x y
  obtain ⟨g', cap', e', _, _, _, _, _, hH⟩ := Lib.holds_of_ownsRow o1 (by simp)
  simp only [Value.slice.injEq, Option.some.injEq, Addr.mk.injEq, and_true, true_and] at e'
  obtain ⟨rfl, rfl⟩ := e'
  have hS := Any.slices_SortFunc sortL (encD R.length) (fun _ => rfl) (cfD R) (swoD R) 36 #[.pointer (some ⟨q, 0, none⟩)] b 0 c l.toArray w eg hcmp hH hbw (by rw [hs]; omega)
  rw [hs] at hS
  refine Calls.mono (show Calls Tryd.prog 35 _ _ _ from hS) ?_
  rintro e w' ⟨he, d, n, os, hp, hsd, rfl⟩
  have hds : d.size = l.length := by rw [← hs]; exact hp.1
  refine ⟨he, d, hp, fun i j a1 a2 a3 => (ltD R _ _).symm.trans (hsd i j a1 a2 a3), ?_, BW n d os⟩
  have hd : ∀ a ∈ d.toList, a < R.length := fun a ha => by
    obtain ⟨p1, _, p3⟩ := hp
    have e1 : d.extract 0 l.length = d := by rw [← hds]; exact Array.extract_size
    have e2 : l.toArray.extract 0 l.length = l.toArray := by
      have : l.length = l.toArray.size := by simp
      rw [this]; exact Array.extract_size
    rw [e1, e2] at p3
    exact hx a (by simpa using p3.mem_iff.1 ha)
  have h1 := Lib.ownsRow_putRow (q := n) (ys := d.toList) o1 (by simpa using hds) (Nat.le_refl l.length)
  rw [List.take_of_length_le (by simp; omega), Array.toArray_toList] at h1
  have h2 := Lib.ownsRow_grow h1 0 os
  have hdl : d.toList.length = l.length := by rw [Array.length_toList, hds]
  unfold NO
  rw [hdl, ← encD_ints hd]
  exact h2
end Go.Proofs.YtjmomgmbmgdeoaaDoor
