/-
  What package name's Merge answers: the names of both lists, sorted, each once. Condition: both slices take together at most 2^48 bytes.
-/
import Derived.Test.YtihiohohocfchaaNMerge
namespace Go.Proofs.Ytihiohohocfchaa
set_option maxRecDepth 100000
open Go.ChangeShapes Go.WideShapes Go.ChangeAt Go.RowKit

theorem small_all {z : List Str} (h : z.all good = true) : ∀ x ∈ z, x.length ≤ 9223372036854775807 := fun x hx => by
  have := good_len (List.all_eq_true.1 h x hx)
  omega
theorem good_uniq {z : List Str} (h : z.all good = true) : (uniq z).all good = true := by
  rw [List.all_eq_true]
  exact fun x hx => List.all_eq_true.1 h x (uniq_mem.1 hx)

theorem own_less {w : World} {b1 b2 n : Nat} {v : Value} {xs : List Value} (h : w.ownsRow b1 9 1 v n xs) (hb : b2 ≤ b1) : w.ownsRow b2 9 1 v n xs := by
  refine ⟨h.1, ?_⟩
  rcases h.2 with k | ⟨g, cap, cur, h1, h2, r⟩
  · exact .inl k
  · exact .inr ⟨g, cap, cur, h1, Nat.le_trans hb h2, r⟩

/-- what Merge hands back -/
def MergePost (z : List Str) (w : World) (e : Ending) (w' : World) : Prop :=
  Below w.heap.size w w' ∧
    ((z.all good = true ∧ (uniq z).length ≤ 64 ∧ ∃ v, e = .returned (.tuple #[v, .int .i64 0]) ∧ w'.ownsRow w.heap.size 9 1 v (uniq z).length ((uniq z).map encStr)) ∨
     (z.all good = true ∧ 64 < (uniq z).length ∧ e = .returned (.tuple #[.slice none 0 0, .int .i64 2])) ∨
     (z.all good = false ∧ e = .returned (.tuple #[.slice none 0 0, .int .i64 3])))

set_option maxHeartbeats 2000000 in
theorem merge_any {w : World} {va vb : Value} {za zb : List Str} (ha : SIn w va za) (hb : SIn w vb zb) (hsum : za.length + zb.length ≤ 17592186044416) :
    Calls Try.prog 30 #[va, vb] w (MergePost (za ++ zb) w) := by
  have HA := Lib.hid ha
  have HB := Lib.hid hb
  have HS := Lib.hid hsum
  have SM : Hid (∀ x ∈ za ++ zb, x.length ≤ 9223372036854775807) := fun x hx => by
    rcases List.mem_append.1 hx with h | h
    · exact HA.out.small x h
    · exact HB.out.small x h
  obtain ⟨a1, k1, rfl, _⟩ := ha
  obtain ⟨a2, k2, rfl, _⟩ := hb
  have LL : Hid ((za ++ zb).length ≤ 17592186044416) := by show _ ≤ _; rw [List.length_append]; exact HS.out
  clear hsum
  generalize e1 : za.length = n1 at *
  generalize e2 : zb.length = n2 at *
  have E1 := Lib.hid e1
  have E2 := Lib.hid e2
  clear e1 e2
  go_enter Try.func30, Try.ntmps30
  go_wp2_with fail
  have BA : Hid (Below w.heap.size w (w.alloc (Obj.cells #[Value.slice a1 n1 k1, Value.slice a2 n2 k2] 24))) := (Below.refl _ w).alloc (Nat.le_refl _) _
  refine (concat_any (b := w.heap.size) (za := za) (zb := zb) (va := .slice a1 n1 k1) (vb := .slice a2 n2 k2) (HA.out.later BA.out) (HB.out.later BA.out) (by rw [E1.out, E2.out]; exact HS.out) (by simp) (by simp)).mono ?_
  rintro e w1 ⟨v, rfl, hown, hbel⟩
  have B1 : Hid (Below w.heap.size w w1) := BA.out.trans (hbel.mono (by simp))
  have I1 : Hid (SIn w1 v (za ++ zb)) := SIn.own hown LL.out SM.out
  clear hown hbel BA
  go_wp2_with fail
  refine (sort_any I1.out).mono ?_
  have UL : Hid ((uniq (za ++ zb)).length ≤ 17592186044416) := Nat.le_trans (uniq_le _) LL.out
  rintro e w2 (⟨hg, v2, rfl, hown, hbel⟩ | ⟨hg, rfl, rfl⟩)
  · have G := Lib.hid hg
    have B2 : Hid (Below w.heap.size w w2) := B1.out.trans (hbel.mono B1.out.size)
    have OW : Hid (w2.ownsRow w.heap.size 9 1 v2 (uniq (za ++ zb)).length ((uniq (za ++ zb)).map encStr)) := own_less hown B1.out.size
    obtain ⟨a, cap, rfl⟩ : ∃ a cap, v2 = .slice a (uniq (za ++ zb)).length cap := by
      obtain ⟨a, cap, h, _⟩ := SIn.own hown UL.out (small_all (good_uniq hg))
      exact ⟨a, cap, h⟩
    clear hg hown hbel I1 B1
    have hu := UL.out
    by_cases h64 : (uniq (za ++ zb)).length ≤ 64
    · have H := Lib.hid h64
      generalize eU : (uniq (za ++ zb)).length = nu at *
      have EU := Lib.hid eU; clear eU
      go_wp2
      go_ret2
      refine ⟨B2.out, .inl ⟨G.out, ?_, _, rfl, ?_⟩⟩
      · rw [EU.out]; exact H.out
      · rw [EU.out]; exact OW.out
    · have h65 : 64 < (uniq (za ++ zb)).length := by omega
      have H := Lib.hid h65
      generalize eU : (uniq (za ++ zb)).length = nu at *
      have EU := Lib.hid eU; clear eU
      go_wp2
      go_ret2
      refine ⟨B2.out, .inr (.inl ⟨G.out, ?_, rfl⟩)⟩
      rw [EU.out]; exact H.out
  · have G := Lib.hid hg
    clear hg
    go_wp2
    go_ret2
    exact ⟨B1.out, .inr (.inr ⟨G.out, rfl⟩)⟩
end Go.Proofs.Ytihiohohocfchaa
