/-
  The law DomOrder, whatever its arguments; the laws' own doms. Condition: the table of math/bits lies in memory as its text lays it (the card ties this).
-/
import Derived.Test.YtjmomgmbmgdeoaaDoorHDd
namespace Go.Proofs.YtjmomgmbmgdeoaaDoor
set_option maxRecDepth 100000
set_option linter.unusedVariables false
open Go.ChangeShapes Go.WideShapes Go.ChangeAt Go.RowKit

/-! the laws' doms -/
theorem d0_range : rangeC [2#64, 0#64] [0] = 0 := range_zero.2 ⟨k0_in, fun n hn => by
  rw [List.mem_singleton] at hn
  subst hn; exact ⟨by decide, by decide⟩⟩
theorem d0_walk : Wk [2#64, 0#64] 0 1 := .step (.refl 0) (by decide +kernel)
theorem d0_idom : Idom [2#64, 0#64] 0 1 0 := ⟨.root d0_walk, by decide, fun a ha hne => by
  have h : a < 2 := dm_lt k0_in (by decide) ha
  obtain rfl : a = 0 := by omega
  exact .refl (.refl 0)⟩
theorem d0_doms : domsA [2#64, 0#64] 0 = [-1, 0] := by
  rw [domsA_ok d0_range]
  show [idomR _ 0 0, idomR _ 0 1] = _
  rw [idomR_root, idomR_is d0_idom]; rfl
set_option maxHeartbeats 2000000 in
theorem doms_true (w : World) (ht : Tab w) :
    Calls Tryd.prog 16 #[] w fun e w' => e = .returned (.bool true) ∧ Below w.heap.size w w' := by
  have OR : Hid (∀ T, Calls Tryd.prog 7 #[.slice (some ⟨w.heap.size, 0, none⟩) 2 2, .int .i64 0] (w.alloc (.cells #[.int .u64 2, .int .u64 0] T)) fun e w' => ∃ g c, e = .returned (.tuple #[.slice (some ⟨g, 0, none⟩) 2 c, .int .i64 0]) ∧ w'.cell? ⟨g, 0, none⟩ = some (.int .i64 (-1)) ∧ w'.cell? ⟨g, 1, none⟩ = some (.int .i64 0) ∧ Below (w.alloc (.cells #[.int .u64 2, .int .u64 0] T)).heap.size (w.alloc (.cells #[.int .u64 2, .int .u64 0] T)) w') := fun T => by
    refine (domsP_any 0 (win_two w 2#64 0#64 T) (ht.below (below_al w _) ht.1)).mono ?_
    rintro e w' ⟨b, u, rfl, o⟩
    rw [d0_range]
    rw [d0_doms] at o
    rcases o.2 with ⟨_, h0⟩ | ⟨g, cap, cur, rfl, _⟩
    · simp at h0
    · exact ⟨g, cap, rfl, ZO.cell o (i := 0) (by decide), ZO.cell o (i := 1) (by decide), b⟩
  have WA := Lib.hid (fun T => below_al w (.cells #[.int .u64 2, .int .u64 0] T))
  clear ht
  go_enter Tryd.func16, Tryd.ntmps16
  go_wp2_with fail
  refine (OR.out _).mono ?_
  rintro e w2 ⟨g, c, rfl, c0, c1, b2⟩
  have B2 := Lib.hid ((WA.out _).trans (b2.mono (WA.out _).size))
  clear b2
  go_wp2
  go_ret
  exact ⟨rfl, B2.out⟩

/-! DomOrder -/
theorem good4_any (x y z u : Int) (w : World) (t : TypeId) :
    Calls Tryd.prog 20 #[.slice (some ⟨w.heap.size, 0, none⟩) 4 4] (w.alloc (.cells #[.int .i64 x, .int .i64 y, .int .i64 z, .int .i64 u] t)) fun e w' =>
      (e = .returned (.bool false) ∨ ((x = 0 ∧ y = 0 ∧ z = 0 ∧ u = 0) ∧ e = .returned (.bool true))) ∧ w' = w.alloc (.cells #[.int .i64 x, .int .i64 y, .int .i64 z, .int .i64 u] t) := by
  have B := blk_new w #[.int .i64 x, .int .i64 y, .int .i64 z, .int .i64 u] t
  refine (goodL_any w.heap.size [x, y, z, u] _ (by simp) (fun k hk => ?_)).mono ?_
  · match k, hk with
    | 0, _ => exact B.cell rfl
    | 1, _ => exact B.cell rfl
    | 2, _ => exact B.cell rfl
    | 3, _ => exact B.cell rfl
    | k + 4, hk => exact absurd hk (by simp)
  · rintro e w' ⟨⟨h1, rfl⟩ | ⟨h1, rfl⟩, rfl⟩
    · exact ⟨.inl rfl, rfl⟩
    · refine ⟨.inr ⟨⟨?_, ?_, ?_, ?_⟩, rfl⟩, rfl⟩
      · exact Decidable.not_not.1 fun h => h1 ⟨0, by simp, h⟩
      · exact Decidable.not_not.1 fun h => h1 ⟨1, by simp, h⟩
      · exact Decidable.not_not.1 fun h => h1 ⟨2, by simp, h⟩
      · exact Decidable.not_not.1 fun h => h1 ⟨3, by simp, h⟩
set_option maxHeartbeats 8000000 in
theorem domOrder_any {w : World} {v : Value} {r : List Bv} (o a b c : Int) (h : WIn w v r) (ht : Tab w) :
    Calls Tryd.prog 6 #[v, .int .i64 o, .int .i64 a, .int .i64 b, .int .i64 c] w fun e w' => e = .returned (.bool true) ∧ Below w.heap.size w w' := by
  have DT := Lib.hid (doms_true w ht)
  have RAB := Lib.hid (fun W (hW : Below w.heap.size w W) => rulesP_any o a b (h.later hW) (ht.below hW ht.1))
  have RBC := Lib.hid (fun W (hW : Below w.heap.size w W) => rulesP_any o b c (h.later hW) (ht.below hW ht.1))
  have RAC := Lib.hid (fun W (hW : Below w.heap.size w W) => rulesP_any o a c (h.later hW) (ht.below hW ht.1))
  have RBA := Lib.hid (fun W (hW : Below w.heap.size w W) => rulesP_any o b a (h.later hW) (ht.below hW ht.1))
  have G4 := Lib.hid (fun x y z u W t => good4_any x y z u W t)
  have OK : Hid (rangeC r [o, a, b] = 0 → rangeC r [o, b, c] = 0 → rangeC r [o, a, c] = 0 → rangeC r [o, b, a] = 0 →
      (rulesA r o a b = true → rulesA r o b c = true → rulesA r o a c = true) ∧ (rulesA r o a b = true → rulesA r o b a = true → a = b)) := fun h1 h2 h3 h4 => by
    obtain ⟨_, p, k, m, rfl, rfl, rfl, _⟩ := range_three h1
    obtain ⟨_, p', k', m', e1, e2, rfl, _⟩ := range_three h2
    rw [rulesA_ok h1, rulesA_ok h2, rulesA_ok h3, rulesA_ok h4]
    exact ⟨fun x y => x.trans y, fun x y => by rw [x.anti y]⟩
  obtain ⟨sa, sc, rfl, _⟩ := h
  clear ht
  generalize r.length = L at *
  generalize rangeC r [o, a, b] = C1 at *
  generalize rangeC r [o, b, c] = C2 at *
  generalize rangeC r [o, a, c] = C3 at *
  generalize rangeC r [o, b, a] = C4 at *
  go_enter Tryd.func6, Tryd.ntmps6
  go_wp2_with fail
  refine DT.out.mono ?_
  rintro e w1 ⟨rfl, b1⟩
  have B1 := Lib.hid b1
  clear b1 DT
  go_wp2_with fail
  refine (RAB.out _ B1.out).mono ?_
  rintro e w2 ⟨rfl, b2⟩
  have B2 := Lib.hid (B1.out.trans (b2.mono B1.out.size))
  clear b2 B1 RAB
  go_wp2_with fail
  refine (RBC.out _ B2.out).mono ?_
  rintro e w3 ⟨rfl, b3⟩
  have B3 := Lib.hid (B2.out.trans (b3.mono B2.out.size))
  clear b3 B2 RBC
  go_wp2_with fail
  refine (RAC.out _ B3.out).mono ?_
  rintro e w4 ⟨rfl, b4⟩
  have B4 := Lib.hid (B3.out.trans (b4.mono B3.out.size))
  clear b4 B3 RAC
  go_wp2_with fail
  refine (RBA.out _ B4.out).mono ?_
  rintro e w5 ⟨rfl, b5⟩
  have B5 := Lib.hid (B4.out.trans (b5.mono B4.out.size))
  clear b5 B4 RBA
  have BA : Hid (∀ T, Below w.heap.size w (w5.alloc (.cells #[.int .i64 C1, .int .i64 C2, .int .i64 C3, .int .i64 C4] T))) := fun T => B5.out.trans ((below_al w5 _).mono B5.out.size)
  generalize rulesA r o a b = x at *
  generalize rulesA r o b c = y at *
  generalize rulesA r o a c = z at *
  generalize rulesA r o b a = u at *
  go_wp2_with fail
  refine (G4.out _ _ _ _ _ _).mono ?_
  rintro e w6 ⟨rfl | ⟨⟨h1, h2, h3, h4⟩, rfl⟩, rfl⟩
  · clear OK
    go_wp2
    go_ret
    exact ⟨rfl, BA.out _⟩
  · obtain ⟨q1, q2⟩ := OK.out h1 h2 h3 h4
    subst h1 h2 h3 h4
    clear OK
    have HB := Lib.hid (BA.out 24)
    clear BA
    have DN : Hid (x = true → u = true → (a == b) = true) := fun h k => by rw [beq_iff_eq]; exact q2 h k
    clear q2
    cases x
    · clear q1 DN
      go_wp2
      go_ret
      exact ⟨rfl, HB.out⟩
    · cases u
      · clear DN
        cases y
        · clear q1
          go_wp2
          go_ret
          exact ⟨rfl, HB.out⟩
        · obtain rfl : z = true := q1 rfl rfl
          clear q1
          go_wp2
          go_ret
          exact ⟨rfl, HB.out⟩
      · have t1 := DN.out rfl rfl
        clear DN
        cases y
        · clear q1
          go_wp2
          go_ret
          exact ⟨rfl, HB.out⟩
        · obtain rfl : z = true := q1 rfl rfl
          clear q1
          go_wp2
          go_ret
          exact ⟨rfl, HB.out⟩
end Go.Proofs.YtjmomgmbmgdeoaaDoor
