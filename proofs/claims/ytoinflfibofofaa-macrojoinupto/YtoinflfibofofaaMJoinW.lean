/-
  The law MacroJoin holds: the walk. Condition: the strings have at most 2^31 bytes.
-/
import Derived.Test.YtoinflfibofofaaMGood
namespace Go.Proofs.Ytoinflfibofofaa
set_option linter.unusedVariables false
open Go.ChangeShapes Go.WideShapes Go.ChangeAt Go.RowKit

theorem bs_append (a b : Str) : bs a ++ bs b = bs (a ++ b) := by
  rw [← bs_of (bs a ++ bs b)]; simp [bs]
theorem bs_eq (a : Str) : ((bs a).toList == (bs a).toList) = true := by simp
theorem two_ints (w : World) (x y : Value) (t : TypeId) : (w.alloc (.cells #[x, y] t)).cell? ⟨w.heap.size, 0, none⟩ = some x ∧ (w.alloc (.cells #[x, y] t)).cell? ⟨w.heap.size, 1, none⟩ = some y := by
  have hh : (w.alloc (.cells #[x, y] t)).heap[w.heap.size]? = some (.cells #[x, y] t) := heap_alloc_new _ _
  unfold World.cell?
  rw [hh]
  exact ⟨rfl, rfl⟩
set_option maxHeartbeats 4000000 in
set_option maxRecDepth 100000 in
theorem join_walk (z : List Mc) (v : Value) (s t : Str) (w : World) (h : McIn w v z) (hx : ∀ m ∈ z, m.1.length ≤ maxLen ∧ m.2.length ≤ 4294967296) (hs : s.length ≤ 2147483648) (ht : t.length ≤ 2147483648) :
    Calls Try.prog 5 #[v, .string (bs s), .string (bs t)] w fun e w' => e = .returned (.bool true) ∧ Below w.heap.size w w' := by
  have EX : Hid (∀ (u : Str) (W : World), u.length ≤ 4294967296 → Below w.heap.size w W → Calls Try.prog 10 #[v, .string (bs u)] W (EPost z u W)) := fun u W hu hW => exp_any z u v W (h.later hW) hx hu
  have HS := Lib.hid hs; have HT := Lib.hid ht
  clear h hx hs ht
  go_enter Try.func5, Try.ntmps5
  go_wp2_with fail
  refine (macros_any _).mono ?_
  rintro e w1 ⟨rfl, hb1⟩
  have B1 := Lib.hid hb1; clear hb1
  go_wp2_with fail
  refine (EX.out s _ (by have := HS.out; omega) B1.out).mono ?_
  rintro e w2 ⟨hb2, h2⟩
  have B2 : Hid (Below w.heap.size w w2) := B1.out.trans (hb2.mono B1.out.size)
  clear hb2
  obtain ⟨a, E, rfl, ha⟩ : ∃ a E, e = .returned (.tuple #[.string (bs a), .int .i64 E]) ∧ (E = 0 → Exp z s a) := by
    rcases h2 with ⟨a, h2, rfl⟩ | ⟨E, h2, rfl⟩
    · exact ⟨a, 0, rfl, fun _ => h2⟩
    · exact ⟨[], E, rfl, fun e => absurd e h2.bad.2⟩
  have HA := Lib.hid ha; clear ha h2
  go_wp2_with fail
  refine (EX.out t _ (by have := HT.out; omega) B2.out).mono ?_
  rintro e w3 ⟨hb3, h3⟩
  have B3 : Hid (Below w.heap.size w w3) := B2.out.trans (hb3.mono B2.out.size)
  clear hb3
  obtain ⟨b, F, rfl, hb⟩ : ∃ a E, e = .returned (.tuple #[.string (bs a), .int .i64 E]) ∧ (E = 0 → Exp z t a) := by
    rcases h3 with ⟨a, h2, rfl⟩ | ⟨E, h2, rfl⟩
    · exact ⟨a, 0, rfl, fun _ => h2⟩
    · exact ⟨[], E, rfl, fun e => absurd e h2.bad.2⟩
  have HB := Lib.hid hb; clear hb h3
  have BA : Hid (∀ o, Below w.heap.size w (w3.alloc o)) := fun o => B3.out.alloc B3.out.size o
  have GA := Lib.hid (good_any w3.heap.size E F (w3.alloc (.cells #[.int .i64 E, .int .i64 F] 27)) (two_ints _ _ _ _).1 (two_ints _ _ _ _).2)
  have la : (bs a).size = a.length := bs_size a
  have lb : (bs b).size = b.length := bs_size b
  go_wp2_with fail
  refine GA.out.mono ?_
  rintro e w4 ⟨rfl, rfl⟩
  by_cases hg : E = 0 ∧ F = 0
  · obtain ⟨rfl, rfl⟩ := hg
    clear GA
    have XA := Lib.hid (HA.out rfl)
    have XB := Lib.hid (HB.out rfl)
    clear HA HB
    have lA : Hid (a.length ≤ 2000 ∧ b.length ≤ 2000) := by
      obtain ⟨_, _, e1⟩ := XA.out
      obtain ⟨_, _, e2⟩ := XB.out
      obtain ⟨_, _, _, l1⟩ := val_some e1
      obtain ⟨_, _, _, l2⟩ := val_some e2
      exact ⟨l1, l2⟩
    by_cases hl : a.length + b.length ≤ 2000
    · have XC := Lib.hid (XA.out.join XB.out hl)
      have t1 : decide ((2000 : Int) < (a.length : Int) + (b.length : Int)) = false := decide_eq_false (by omega)
      have cat := bs_append s t
      have cat2 := bs_append a b
      have eq2 := bs_eq (a ++ b)
      have EE := Lib.hid (EX.out (s ++ t) _ (by have := HS.out; have := HT.out; rw [List.length_append]; omega) (BA.out (.cells #[.int .i64 0, .int .i64 0] 27)))
      have l1 := lA.out.1
      have l2 := lA.out.2
      have ss := bs_size s
      have st := bs_size t
      have hs := HS.out
      have ht := HT.out
      simp only [decide_true, and_self]
      go_wp2_with fail
      refine EE.out.mono ?_
      rintro e w5 ⟨hb5, (⟨c, hc, rfl⟩ | ⟨E, hE, rfl⟩)⟩
      · obtain rfl := hc.one XC.out
        have B5 : Hid (Below w.heap.size w w5) := (BA.out _).trans (hb5.mono (BA.out _).size)
        clear hb5 hc
        go_wp2
        go_ret
        exact ⟨rfl, B5.out⟩
      · exact absurd XC.out (hE.bad.1 _)
    · have t1 : decide ((2000 : Int) < (a.length : Int) + (b.length : Int)) = true := decide_eq_true (by omega)
      have l1 := lA.out.1
      have l2 := lA.out.2
      simp only [decide_true, and_self]
      go_wp2
      go_ret
      exact ⟨rfl, BA.out _⟩
  · have hd : decide (E = 0 ∧ F = 0) = false := decide_eq_false hg
    rw [hd]
    clear hg hd GA
    go_wp2
    go_ret
    exact ⟨rfl, BA.out _⟩
theorem join_walkB (z : List Mc) (v : Value) (S T : ByteArray) (w : World) (h : McIn w v z) (hx : ∀ m ∈ z, m.1.length ≤ maxLen ∧ m.2.length ≤ 4294967296) (hs : S.data.toList.length ≤ 2147483648) (ht : T.data.toList.length ≤ 2147483648) :
    Calls Try.prog 5 #[v, .string S, .string T] w fun e w' => e = .returned (.bool true) ∧ Below w.heap.size w w' := by
  have := join_walk z v S.data.toList T.data.toList w h hx hs ht
  rw [bs_of, bs_of] at this
  exact this
end Go.Proofs.Ytoinflfibofofaa
