/-
  The law MacroTells: the reference's Expanded, macro.Check, slices.Equal of the same strings, slices.ContainsFunc of macros. Condition: strings of at most 2^32 bytes.
-/
import Derived.Test.YtoinflfibofofaaMMf
namespace Go.Proofs.Ytoinflfibofofaa
set_option linter.unusedVariables false
open Go.ChangeShapes Go.WideShapes Go.ChangeAt Go.RowKit

theorem FtRes.of {z : List Mc} {w w' : World} {e : Ending} (h : OPost z w e w') : ∃ E v, FtRes z E ∧ e = .returned (.tuple #[v, .int .i64 E]) := by
  obtain ⟨_, h⟩ := h
  rcases h with ⟨h, rfl⟩ | ⟨hn, (⟨h, rfl⟩ | ⟨h0, (⟨h, rfl⟩ | ⟨hr, (⟨h, rfl⟩ | ⟨o, v, _, h1, h2, rfl⟩)⟩)⟩)⟩
  · exact ⟨_, _, .inl ⟨h, rfl⟩, rfl⟩
  · exact ⟨_, _, .inr ⟨hn, .inl ⟨h, rfl⟩⟩, rfl⟩
  · exact ⟨_, _, .inr ⟨hn, .inr ⟨h0, .inl ⟨h, rfl⟩⟩⟩, rfl⟩
  · exact ⟨_, _, .inr ⟨hn, .inr ⟨h0, .inr ⟨hr, .inl ⟨h, rfl⟩⟩⟩⟩, rfl⟩
  · exact ⟨_, _, .inr ⟨hn, .inr ⟨h0, .inr ⟨hr, .inr ⟨⟨o, h1, h2⟩, rfl⟩⟩⟩⟩, rfl⟩
theorem check_macro (z : List Mc) (v : Value) (w : World) (h : McIn w v z) (hx : ∀ m ∈ z, m.1.length ≤ maxLen ∧ m.2.length ≤ 4294967296) :
    Calls Try.prog 15 #[v] w fun e w' => ∃ E, e = .returned (.int .i64 E) ∧ FtRes z E ∧ Below w.heap.size w w' := by
  have FA := Lib.hid (first_any z v w h hx)
  clear h hx
  go_enter Try.func15, Try.ntmps15
  go_wp2_with fail
  refine FA.out.mono ?_
  intro e w1 hp
  have B1 := Lib.hid hp.1
  obtain ⟨E, v', hE, rfl⟩ := FtRes.of hp
  have HE := Lib.hid hE
  clear hp hE FA
  go_wp2
  go_ret
  exact ⟨E, rfl, HE.out, B1.out⟩
theorem XErr.one {z : List Mc} {E F : Int} (h1 : XErr z E) (h2 : XErr z F) : E = F := by
  rcases h1 with ⟨a, rfl⟩ | ⟨a, h1⟩ <;> rcases h2 with ⟨b, rfl⟩ | ⟨b, h2⟩
  · rfl
  · omega
  · omega
  · rcases h1 with ⟨c, rfl⟩ | ⟨c, h1⟩ <;> rcases h2 with ⟨d, rfl⟩ | ⟨d, h2⟩
    · rfl
    · exact absurd d c
    · exact absurd c d
    · rcases h1 with ⟨⟨m, hm, x, hx, hn⟩, rfl⟩ | ⟨e, h1⟩ <;> rcases h2 with ⟨⟨m', hm', x', hx', hn'⟩, rfl⟩ | ⟨f, h2⟩
      · rfl
      · exact absurd (f m hm x hx) hn
      · exact absurd (e m' hm' x' hx') hn'
      · rcases h1 with ⟨g, rfl⟩ | ⟨⟨o, ho, hm⟩, rfl, _⟩ <;> rcases h2 with ⟨k, rfl⟩ | ⟨⟨o', ho', hm'⟩, rfl, _⟩
        · rfl
        · exact absurd g (ord_free ho' hm')
        · exact absurd k (ord_free ho hm)
        · rfl
theorem EErr.one {z : List Mc} {s : Str} {E G : Int} (h1 : EErr z s E) (h2 : EErr z s G) : E = G := by
  rcases h1 with h1 | ⟨F, h1⟩
  · rcases h2 with h2 | ⟨F, _⟩
    · exact h1.one h2
    · exact absurd F h1.bad.1
  · rcases h2 with h2 | ⟨_, h2⟩
    · exact absurd F h2.bad.1
    · rcases h1 with ⟨a, rfl⟩ | ⟨T, a, h1⟩ <;> rcases h2 with ⟨b, rfl⟩ | ⟨U, b, h2⟩
      · rfl
      · rw [a] at b; cases b
      · rw [a] at b; cases b
      · rw [a] at b
        cases b
        rcases h1 with ⟨⟨x, hx, hxn⟩, rfl⟩ | ⟨h1, _, rfl⟩ <;> rcases h2 with ⟨⟨x', hx', hxn'⟩, rfl⟩ | ⟨h2, _, rfl⟩
        · rfl
        · exact absurd (h2 x hx) hxn
        · exact absurd (h1 x' hx') hxn'
        · rfl
theorem FE.same {z o o' : List Mc} {f f' : Str → Option Str} (h : FE z o f) (ho : ∀ m, m ∈ o ↔ m ∈ z) (h' : FE z o' f') (ho' : ∀ m, m ∈ o' ↔ m ∈ z) : flatL f z = flatL f' z := by
  unfold flatL
  refine List.map_congr_left fun m hm => ?_
  have e1 : (f m.1).isSome = true := by rw [h.mem ho, List.contains_iff_mem]; exact List.mem_map_of_mem hm
  have e2 : (f' m.1).isSome = true := by rw [h'.mem ho', List.contains_iff_mem]; exact List.mem_map_of_mem hm
  obtain ⟨t, ht⟩ := Option.isSome_iff_exists.1 e1
  obtain ⟨u, hu⟩ := Option.isSome_iff_exists.1 e2
  obtain ⟨j, hj⟩ := h.val
  obtain ⟨k, hk⟩ := h'.val
  rw [ht, hu, ev_one z (hj _ _ ht).1 (hk _ _ hu).1]
set_option maxHeartbeats 1000000 in
theorem eqs_same (z : List Str) (v u : Value) (w : World) (hv : SIn w v z) (hu : SIn w u z) :
    Calls Try.prog 18 #[v, u] w fun e w' => e = .returned (.bool true) ∧ Below w.heap.size w w' := by
  have hn := hv.bound
  rcases hv.open with ⟨rfl, a, cap, rfl⟩ | ⟨hp, b, off, cap, rfl, hcap, hlt, hc⟩
  · rcases hu.open with ⟨_, a2, cap2, rfl⟩ | ⟨hp, _⟩
    · clear hv hu
      go_enter Try.func18, Try.ntmps18
      go_wp2_with fail
      go_rounds 1
      go_ret
      exact ⟨rfl, Below.refl _ _⟩
    · exact absurd hp (by simp)
  · rcases hu.open with ⟨rfl, _⟩ | ⟨_, b2, off2, cap2, rfl, hcap2, hlt2, hc2⟩
    · exact absurd hp (by simp)
    · have H1 := Lib.hid hc
      have H2 := Lib.hid hc2
      have BB : Hid (∀ a : Str, ((bs a).toList == (bs a).toList) = true) := fun a => by simp
      clear hv hu hc hc2 hlt hlt2
      go_enter Try.func18, Try.ntmps18
      go_wp2_with fail
      go_loopw [13] (fun i wr => ∃ k : Nat, k ≤ z.length ∧ i = .int .i64 k ∧ ∃ m, wr = w.drewN m) (fun i _ => z.length - (intOf i).toNat)
      case atStart => exact ⟨0, Nat.zero_le _, rfl, 0, rfl⟩
      case round =>
        obtain ⟨k, hk, rfl, m, rfl⟩ := hrel
        by_cases hkl : k < z.length
        · have c1 := H1.out k hkl
          have c3 := H2.out k hkl
          have e1 := BB.out (z.getD k [])
          generalize bs (z.getD k []) = q at *
          go_wp2_with fail
          go_quiet (fail)
          go_wp2
          go_roundw
          case rel => exact ⟨k + 1, by omega, by go_num, _, rfl⟩
          case measure => simp [intOf]; omega
        · go_wp2
          go_ret
          exact ⟨rfl, below_drewN (Below.refl _ _) _⟩
end Go.Proofs.Ytoinflfibofofaa
