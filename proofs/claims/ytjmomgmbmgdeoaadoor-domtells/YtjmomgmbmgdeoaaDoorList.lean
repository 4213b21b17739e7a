/-
  What package bits' List answers, in terms of words. Condition: the table of math/bits lies in memory as its text lays it (the card ties this).
-/
import Derived.Test.YtjmomgmbmgdeoaaDoorSetsB
namespace Go.Proofs.YtjmomgmbmgdeoaaDoor
set_option maxRecDepth 100000
open Go.ChangeShapes Go.WideShapes Go.ChangeAt Go.RowKit

def ints (l : List Nat) : List Value := l.map fun n : Nat => Value.int .i64 (n : Int)
theorem ints_length (l : List Nat) : (ints l).length = l.length := by simp [ints]
theorem ints_append (l m : List Nat) : ints (l ++ m) = ints l ++ ints m := by simp [ints]
theorem ints_get (l : List Nat) (k n : Nat) (h : l[k]? = some n) : (ints l)[k]? = some (.int .i64 (n : Int)) := by simp [ints, h]

theorem infoInt : (Tryd.prog.info? 3).map (fun i => (i.zero, i.size, i.bytes)) = some (some (.int .i64 0), 1, 8) := by kernel_rfl

def lenOf : Value → Nat | .slice _ n _ => n | _ => 0

/-- what List hands back: a new row of the numbers of s -/
def ListPost (s : Bv) (w : World) (e : Ending) (w' : World) : Prop :=
  e = .returned (.slice (some ⟨w.heap.size, 0, none⟩) (cnt s) (cnt s)) ∧
  w'.ownsRow w.heap.size 3 1 (.slice (some ⟨w.heap.size, 0, none⟩) (cnt s) (cnt s)) (cnt s) (ints (nums s)) ∧ Below w.heap.size w w'

set_option maxHeartbeats 1000000 in
theorem list_any (s : Bv) (w : World) (ht : Tab w) : Calls Tryd.prog 59 #[.int .u64 s.toNat] w (ListPost s w) := by
  have HT := Lib.hid ht; clear ht
  have hc := cnt_le s
  obtain ⟨i0, hi, hz0, hz1, hz2⟩ := info_parts infoInt
  have HI := Lib.hid hi; clear hi
  have HZ0 := Lib.hid hz0; clear hz0
  have HZ1 := Lib.hid hz1; clear hz1
  have HZ2 := Lib.hid hz2; clear hz2
  go_enter Tryd.func59, Tryd.ntmps59
  go_wp2_with fail
  refine (count _ _).mono ?_
  rintro e w' ⟨rfl, rfl⟩
  go_wp2_with (at_make; refine wpList_make_own _ rfl _ _ 23 rfl w.heap.size 3 i0 (.int .i64 0) 1 Tryd.underlying23 HI.out HZ0.out HZ1.out _ _ _ (cnt s) rfl rfl (by omega) ?b2 ?b3 (Nat.le_refl _) ?_)
  case b2 => rw [HZ2.out]; omega
  case b3 => unfold maxLen; omega
  intro w0 hown0 hgrow0
  have hb0 : Below w.heap.size w w0 := (Below.refl _ _).grown hgrow0 (Nat.le_refl _) (fun k h => by cases h)
  clear hgrow0
  go_wp2_with fail
  go_loopw [0, 3] (fun v l wr => ∃ (j : Nat) (t : Bv), j ≤ cnt s ∧ Tail s j t ∧ v = .int .u64 t.toNat ∧ l = .slice (some ⟨w.heap.size, 0, none⟩) j (cnt s) ∧
      wr.ownsRow w.heap.size 3 1 (.slice (some ⟨w.heap.size, 0, none⟩) j (cnt s)) j (ints ((nums s).take j)) ∧ Below w.heap.size w wr) (fun _ l _ => cnt s - lenOf l)
  case atStart => exact ⟨0, s, Nat.zero_le _, tail_zero s, rfl, rfl, hown0, hb0⟩
  case round =>
    obtain ⟨j, t, hj, htl, rfl, rfl, hown, hb⟩ := hrel
    clear hown0 hb0
    have HO := Lib.hid hown; clear hown
    have HB := Lib.hid hb; clear hb
    have HL := Lib.hid htl; clear htl
    by_cases hlt : j < cnt s
    · have hne : t ≠ 0#64 := fun e => by have := (tail_empty HL.out).1 e; omega
      have hb : ((t.toNat : Int) != 0) = true := by rw [bv_ne_zero, bne_iff_ne]; exact hne
      have HN := Lib.hid hne; clear hne
      go_wp2_with fail
      refine (smallest_any _ _ HN.out (HT.out.below HB.out HT.out.1)).mono ?_
      rintro e w' ⟨m, hm, rfl, rfl⟩
      have HM := Lib.hid hm; clear hm
      go_wp2_with (at_builtin; refine wpList_append_fits _ rfl _ _ 23 rfl w.heap.size 3 i0 1 Tryd.underlying23 HI.out HZ1.out w.heap.size j (cnt s) _ rfl (HO.out.alloc _) ⟨wr.heap.size, 0, none⟩ 1 1 [.int .i64 (m : Int)] rfl rfl ?c1 ?c2 (by omega) ?_)
      case c1 =>
        intro i u hu
        match i, hu with
        | 0, hu => simp at hu; subst hu; simp [Addr.add]
      case c2 => intro u hu; simp at hu; subst hu; rfl
      intro w1 hown1 hgrow1
      have hb1 : Below w.heap.size w w1 := (HB.out.alloc HB.out.size _).grown hgrow1 (by have := HB.out.size; simp; omega) (fun k hk => by cases hk; exact Nat.le_refl _)
      have HB1 := Lib.hid hb1; clear hb1 hgrow1
      have HO1 := Lib.hid hown1; clear hown1
      go_wp2_with fail
      refine (without_any _ _).mono ?_
      rintro e w' ⟨rfl, rfl⟩
      go_wp2
      go_roundw
      case rel =>
        obtain ⟨h1, h2⟩ := tail_least HL.out HM.out
        refine ⟨j + 1, rest t, by omega, tail_next HL.out HM.out, rfl, rfl, ?_, HB1.out⟩
        have e := nums_take s m HM.out.1 h1
        rw [h2] at e
        rw [e, ints_append]
        exact HO1.out
      case measure => simp [lenOf]; omega
    · have he : t = 0#64 := (tail_empty HL.out).2 (by omega)
      subst he
      obtain rfl : j = cnt s := by omega
      go_wp2
      go_ret
      refine ⟨rfl, ?_, HB.out⟩
      have := HO.out
      rwa [List.take_of_length_le (by rw [nums_length]; omega)] at this
end Go.Proofs.YtjmomgmbmgdeoaaDoor
