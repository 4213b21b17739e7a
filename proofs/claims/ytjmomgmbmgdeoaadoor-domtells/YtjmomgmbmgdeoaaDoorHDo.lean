/-
  Package dom's over, Over, Doms, Rules. Condition: the table of math/bits lies in memory as its text lays it (the card ties this).
-/
import Derived.Test.YtjmomgmbmgdeoaaDoorHDs
namespace Go.Proofs.YtjmomgmbmgdeoaaDoor
set_option maxRecDepth 100000
set_option linter.unusedVariables false
open Go.ChangeShapes Go.WideShapes Go.ChangeAt Go.RowKit

theorem no_base {B B' : Nat} {v : Value} {l : List Nat} {w : World} (h : NO B v l w) (hb : B' ≤ B) : NO B' v l w := by
  refine ⟨h.1, h.2.imp id ?_⟩
  rintro ⟨g, cap, cur, h1, h2, h3⟩
  exact ⟨g, cap, cur, h1, Nat.le_trans hb h2, h3⟩
theorem over_nil {r : List Bv} (hr : RowsIn r) {o n : Nat} (ho : o < r.length) (h : chA (ruL r o) n r.length = []) : overR r o n = [] := (over_sorted hr ho (l := []) (by rw [h]) List.Pairwise.nil).symm
set_option maxHeartbeats 8000000 in
theorem overD_any {w : World} {v : Value} {r : List Bv} {o n : Nat} (h : WIn w v (ruL r o)) (hr : RowsIn r) (ho : o < r.length) (hn : n < r.length) :
    Calls Tryd.prog 24 #[v, .int .i64 (n : Int)] w fun e w' => ∃ u, e = .returned u ∧ NO w.heap.size u (overR r o n) w' ∧ Below w.heap.size w w' := by
  obtain ⟨i0, hi, hz0, hz1, hz2⟩ := info_parts infoInt
  have HI := Lib.hid hi; clear hi
  have HZ0 := Lib.hid hz0; clear hz0
  have HZ1 := Lib.hid hz1; clear hz1
  have HZ2 := Lib.hid hz2; clear hz2
  have hl := hr.len
  have hRl := ruL_length r o
  have BX : Hid (∀ T, Blk w.heap.size #[v] T (w.alloc (.cells #[v] T))) := fun T => blk_new w #[v] T
  have BA : Hid (∀ T, Below w.heap.size w (w.alloc (.cells #[v] T)) ∧ (w.alloc (.cells #[v] T)).heap.size = w.heap.size + 1) := fun T => ⟨below_al w _, by simp⟩
  have SO : Hid (∀ w0 W b c, Blk w.heap.size #[v] 22 w0 → Below w.heap.size w w0 → Below w0.heap.size w0 W → NO w0.heap.size (.slice (some ⟨b, 0, none⟩) (chA (ruL r o) n r.length).length c) (chA (ruL r o) n r.length) W →
      Calls Tryd.prog 35 #[.slice (some ⟨b, 0, none⟩) (chA (ruL r o) n r.length).length c, .func (.func 36) #[] #[.pointer (some ⟨w.heap.size, 0, none⟩)]] W fun e w' =>
        e = .returned (.tuple #[]) ∧ NO w0.heap.size (.slice (some ⟨b, 0, none⟩) (chA (ruL r o) n r.length).length c) (overR r o n) w' ∧ Below w0.heap.size w0 w') := fun w0 W b c hk hb0 hb hO => by
    refine (sortD_any (h.later hb0) (hk.cell rfl) (by rw [hRl]; omega) (by rw [hRl]; exact hl) hb hO (fun a ha => by rw [hRl]; exact (chA_mem.1 ha).1) (Nat.le_trans (chA_len _ _ _) hl)).mono ?_
    rintro e w' ⟨he, d, h1, h2, h3, h4⟩
    rw [sort_over hr ho h1 h2] at h3
    exact ⟨he, h3, h4⟩
  have ON : Hid (chA (ruL r o) n r.length = [] → overR r o n = []) := fun h => over_nil hr ho h
  have CY : Hid (∀ k, (wAt (ruL r o) k).getLsbD n = true → chA (ruL r o) n (k + 1) = chA (ruL r o) n k ++ [k]) := fun k h => chA_yes h
  have CN : Hid (∀ k, (wAt (ruL r o) k).getLsbD n = false → chA (ruL r o) n (k + 1) = chA (ruL r o) n k) := fun k h => chA_no h
  have C0 : Hid (chA (ruL r o) n 0 = []) := Lib.hid rfl
  have CLn : Hid (∀ k, (chA (ruL r o) n k).length ≤ k) := fun k => chA_len _ _ _
  have AO := Lib.hid (fun x => and_one x n (by omega))
  have hn64 : (n : Int) < 64 := by omega
  have HW := Lib.hid (fun W (hW : Below w.heap.size w W) => h.later hW)
  obtain ⟨a, c, rfl, _⟩ := h
  rw [hRl] at *
  have HC : Hid (∀ W, Below w.heap.size w W → ∀ k, k < r.length → ∃ b off, a = some ⟨b, off, none⟩ ∧ W.cell? ⟨b, off + k, none⟩ = some (.int .u64 ((wAt (ruL r o) k).toNat : Int))) := fun W hW k hk => by
    obtain ⟨a', c', e, hh⟩ := HW.out W hW
    simp only [Value.slice.injEq] at e
    obtain ⟨rfl, _, rfl⟩ := e
    exact hh k (by rw [ruL_length]; exact hk)
  clear HW hr hRl
  generalize overR r o n = ov at *
  generalize chA (ruL r o) n = ch at *
  generalize ruL r o = R at *
  generalize r.length = L at *
  go_enter Tryd.func24, Tryd.ntmps24
  go_wp2_with fail
  obtain ⟨bA, sA⟩ := BA.out 22
  have B1 := Lib.hid bA; have K1 := Lib.hid (BX.out 22)
  clear bA BA BX
  generalize hw1 : w.alloc (.cells #[Value.slice a L c] 22) = w1 at *
  have S1 := Lib.hid sA
  clear hw1 sA
  have SO1 := Lib.hid (fun W b c hb hO => SO.out w1 W b c K1.out B1.out hb hO)
  clear SO
  go_loopw [5, 10] (fun u i wr => ∃ k : Nat, k ≤ L ∧ i = .int .i64 (k : Int) ∧ NO w1.heap.size u (ch k) wr ∧ Below w1.heap.size w1 wr) (fun _ i _ => L - (intOf i).toNat)
  case atStart => exact ⟨0, Nat.zero_le _, rfl, by rw [C0.out]; exact no_nil _ _, Below.refl _ _⟩
  case round =>
    obtain ⟨k, hk, rfl, qo, qb⟩ := hrel
    have QO := Lib.hid qo; have QB := Lib.hid qb; clear qo qb
    rename World => wr
    by_cases hkl : k < L
    · obtain ⟨b, off, rfl, c0⟩ := HC.out wr (B1.out.trans (QB.out.mono B1.out.size)) k hkl
      have A1 := AO.out (wAt R k)
      have i2 : (k : Int) < (L : Int) := by omega
      have hcl := CLn.out k
      cases hb : (wAt R k).getLsbD n
      · have E := Lib.hid (CN.out k hb)
        rw [hb] at A1
        clear hb
        generalize (wAt R k).toNat = x at *
        go_wp2
        go_roundw
        case rel => exact ⟨k + 1, by omega, by go_num, by rw [E.out]; exact QO.out, QB.out⟩
        case measure => simp [intOf]; omega
      · have E := Lib.hid (CY.out k hb)
        rw [hb] at A1
        clear hb
        generalize (wAt R k).toNat = x at *
        go_wp2_with (at_builtin; refine wpList_append_own _ rfl _ _ 23 rfl w1.heap.size 3 i0 (.int .i64 0) 1 8 Tryd.underlying23 HI.out HZ0.out HZ1.out HZ2.out rfl (by decide) _ _ _ rfl (World.ownsRow.alloc QO.out _) ⟨wr.heap.size, 0, none⟩ 1 1 [.int .i64 (k : Int)] rfl rfl ?c1 ?c2 ?c3 ?c4 ?c5 ?_)
        case c1 =>
          intro i u hu
          match i, hu with
          | 0, hu => simp at hu; subst hu; simp [Addr.add]
        case c2 => intro u hu; simp at hu; subst hu; rfl
        case c3 => unfold maxLen; omega
        case c4 => omega
        case c5 => have := QB.out.size; simp; omega
        intro v' w3 hown3 hgrow3 _
        have B3 := Lib.hid ((QB.out.alloc QB.out.size _).grown hgrow3 (by have := QB.out.size; simp; omega) (fun g hg => (QO.out.lt g hg).1))
        have O3 : Hid (NO w1.heap.size v' (ch k ++ [k]) w3) := Lib.hid (by
          unfold NO
          rw [List.length_append, ints_append]
          exact hown3)
        clear hgrow3 hown3
        go_wp2
        go_roundw
        case rel => exact ⟨k + 1, by omega, by go_num, by rw [E.out]; exact O3.out, B3.out⟩
        case measure => simp [intOf]; omega
    · obtain rfl : k = L := by omega
      have SN := Lib.hid (fun fv W => sortNone_any fv W)
      rcases QO.out.2 with ⟨rfl, h0⟩ | ⟨g, cap, cur, rfl, _⟩
      · have E := Lib.hid (ON.out (List.eq_nil_of_length_eq_zero h0))
        clear h0
        go_wp2_with fail
        refine (SN.out _ _).mono ?_
        rintro e w4 ⟨rfl, rfl⟩
        go_wp2
        go_ret
        exact ⟨_, rfl, by rw [E.out]; exact no_nil _ _, B1.out.trans (QB.out.mono B1.out.size)⟩
      · have S4 := Lib.hid (SO1.out wr g cap QB.out QO.out)
        clear SO1
        generalize (ch k).length = M at *
        go_wp2_with fail
        refine S4.out.mono ?_
        rintro e w4 ⟨rfl, o4, b4⟩
        have O4 := Lib.hid (no_base o4 B1.out.size); have B4 := Lib.hid (B1.out.trans (b4.mono B1.out.size))
        clear o4 b4
        go_wp2
        go_ret
        exact ⟨_, rfl, O4.out, B4.out⟩
end Go.Proofs.YtjmomgmbmgdeoaaDoor
