/-
  slices.ContainsFunc at rules and at inferences, with tests that need only hold at what the row holds. No condition.
-/
import Derived.Test.YtihiohohocfchaaIPf
namespace Go.Proofs.Ytihiohohocfchaa
set_option maxRecDepth 100000
set_option linter.unusedVariables false
open Go.ChangeShapes Go.WideShapes Go.ChangeAt Go.RowKit

/-- a function value that tests the rules of z -/
def RTestsOn (z : List Rl) (F : Nat) (caps : Array Value) (f : Rl → Bool) (w : World) : Prop :=
  ∀ W, Below w.heap.size w W → ∀ (t n : List Str), (t, n) ∈ z → ∀ tv uv, SIn W tv t → SIn W uv n → Calls Try.prog F (#[.agg #[tv, uv]] ++ caps) W fun e w' => e = .returned (.bool (f (t, n))) ∧ Below W.heap.size W w'
set_option maxHeartbeats 1000000 in
set_option maxRecDepth 100000 in
theorem rindexOn (F : Nat) (caps : Array Value) (f : Rl → Bool) {z : List Rl} {v : Value} {w : World} (h : RIn w v z) (eF : Ent F) (ht : RTestsOn z F caps f w) :
    Calls Try.prog 45 #[v, .func (.func F) #[] caps] w fun e w' =>
      ((e = .returned (.int .i64 (-1)) ∧ z.any f = false) ∨ ((∃ k : Nat, e = .returned (.int .i64 (k : Int))) ∧ z.any f = true)) ∧ Below w.heap.size w w' := by
  have HL := Lib.hid h.bound
  have HT := Lib.hid ht; clear ht
  have EF := Lib.hid eF; clear eF
  rcases h.open with ⟨rfl, a, cap, rfl⟩ | ⟨hp, b, off, cap, rfl, hcap, hlt, T, U, hc⟩
  · clear h
    go_enter Try.func45, Try.ntmps45
    go_wp2_with fail
    go_rounds 1
    go_ret
    exact ⟨.inl ⟨rfl, rfl⟩, Below.refl _ _⟩
  · have HC : Hid (∀ W, Below w.heap.size w W → ∀ k, k < z.length → W.cell? ⟨b, off + k * 2, none⟩ = some (T k) ∧ W.cell? ⟨b, off + k * 2 + 1, none⟩ = some (U k) ∧ SIn W (T k) (tg z k) ∧ SIn W (U k) (nd z k)) := fun W hW k hk => ⟨cell_later hW (hc k hk).1, cell_later hW (hc k hk).2.1, (hc k hk).2.2.1.later hW, (hc k hk).2.2.2.later hW⟩
    have AE : Hid ((z.take z.length).any f = z.any f) := Lib.hid (by rw [List.take_length])
    clear hc h hlt
    go_enter Try.func45, Try.ntmps45
    go_wp2_with fail
    go_loopw [8] (fun i wr => ∃ k : Nat, k ≤ z.length ∧ i = .int .i64 k ∧ (z.take k).any f = false ∧ Below w.heap.size w wr) (fun i _ => z.length - (intOf i).toNat)
    case atStart => exact ⟨0, by omega, rfl, by simp, Below.refl _ _⟩
    case round =>
      obtain ⟨k, hk, rfl, ha, qb⟩ := hrel
      have HA := Lib.hid ha; have QB := Lib.hid qb; clear ha qb
      by_cases hkl : k < z.length
      · obtain ⟨c0, c1, s0, s1⟩ := HC.out wr QB.out k hkl
        have hz := HL.out
        have e1 := Lib.hid (any_take (f := f) hkl)
        have M1 := Lib.hid (rl_mem hkl)
        have T1 := Lib.hid (HT.out wr QB.out _ _ (rl_mem hkl) _ _ s0 s1)
        generalize T k = tv at *
        generalize U k = uv at *
        generalize tg z k = tk at *
        generalize nd z k = nk at *
        obtain ⟨at', ct, rfl⟩ := s0.shape
        obtain ⟨an', cn, rfl⟩ := s1.shape
        clear s0 s1
        generalize tk.length = lt at *
        generalize nk.length = ln at *
        go_wp2_with fail
        rw [EF.out, Oper.upon_enter]
        refine T1.out.mono ?_
        rintro e w' ⟨rfl, b2⟩
        have B2 := Lib.hid (QB.out.trans (b2.mono QB.out.size)); clear b2
        cases ho : f (tk, nk)
        · have HO := Lib.hid ho; clear ho
          go_wp2
          go_roundw
          case rel => exact ⟨k + 1, by omega, by go_num, by rw [e1.out, HA.out, HO.out]; rfl, B2.out⟩
          case measure => simp [intOf]; omega
        · have HO := Lib.hid ho; clear ho
          go_wp2
          go_ret
          exact ⟨.inr ⟨⟨k, rfl⟩, List.any_eq_true.2 ⟨_, M1.out, HO.out⟩⟩, B2.out⟩
      · obtain rfl : k = z.length := by omega
        rw [AE.out] at HA
        go_wp2
        go_ret
        exact ⟨.inl ⟨rfl, HA.out⟩, QB.out⟩
theorem rcontainsOn (F : Nat) (caps : Array Value) (f : Rl → Bool) {z : List Rl} {v : Value} {w : World} (h : RIn w v z) (eF : Ent F) (ht : RTestsOn z F caps f w) :
    Calls Try.prog 22 #[v, .func (.func F) #[] caps] w fun e w' => e = .returned (.bool (z.any f)) ∧ Below w.heap.size w w' := by
  have H := Lib.hid (rindexOn F caps f h eF ht)
  go_enter Try.func22, Try.ntmps22
  go_wp2_with fail
  refine H.out.mono ?_
  rintro e w' ⟨⟨rfl, ha⟩ | ⟨⟨k, rfl⟩, ha⟩, hb⟩
  · have HA := Lib.hid ha; have HB := Lib.hid hb; clear ha hb
    go_wp2
    go_ret
    rw [HA.out]; exact ⟨rfl, HB.out⟩
  · have HA := Lib.hid ha; have HB := Lib.hid hb; clear ha hb
    have hk : decide ((0 : Int) ≤ (k : Int)) = true := decide_eq_true (by omega)
    go_wp2
    go_ret
    rw [HA.out]; exact ⟨rfl, HB.out⟩


/-- a function value that tests the inferences of z -/
def ITestsOn (z : List Mc) (F : Nat) (caps : Array Value) (f : Mc → Bool) (w : World) : Prop :=
  ∀ W, Below w.heap.size w W → ∀ (a b : Str), (a, b) ∈ z → Calls Try.prog F (#[.agg #[.string (bs a), .string (bs b)]] ++ caps) W fun e w' => e = .returned (.bool (f (a, b))) ∧ Below W.heap.size W w'
theorem iany_take {z : List Mc} {f : Mc → Bool} {k : Nat} (h : k < z.length) : (z.take (k + 1)).any f = ((z.take k).any f || f (nm z k, vl z k)) := by
  rw [take_at h, List.any_append]; simp
set_option maxHeartbeats 1000000 in
set_option maxRecDepth 100000 in
theorem iindexOn (F : Nat) (caps : Array Value) (f : Mc → Bool) {z : List Mc} {v : Value} {w : World} (h : McIn w v z) (eF : Ent F) (ht : ITestsOn z F caps f w) :
    Calls Try.prog 44 #[v, .func (.func F) #[] caps] w fun e w' =>
      ((e = .returned (.int .i64 (-1)) ∧ z.any f = false) ∨ ((∃ k : Nat, e = .returned (.int .i64 (k : Int))) ∧ z.any f = true)) ∧ Below w.heap.size w w' := by
  have hn : z.length ≤ 8796093022208 := by obtain ⟨_, _, _, _, _, h4, _⟩ := h; exact h4
  have HT := Lib.hid ht; clear ht
  have EF := Lib.hid eF; clear eF
  rcases h.open with ⟨rfl, a, cap, rfl⟩ | ⟨hp, b, off, cap, rfl, hcap, hlt, hc⟩
  · clear h
    go_enter Try.func44, Try.ntmps44
    go_wp2_with fail
    go_rounds 1
    go_ret
    exact ⟨.inl ⟨rfl, rfl⟩, Below.refl _ _⟩
  · have HC : Hid (∀ W, Below w.heap.size w W → ∀ k, k < z.length → W.cell? ⟨b, off + k * 2, none⟩ = some (.string (bs (nm z k))) ∧ W.cell? ⟨b, off + k * 2 + 1, none⟩ = some (.string (bs (vl z k)))) := fun W hW k hk => ⟨cell_later hW (hc k _ (at_some hk)).1, cell_later hW (hc k _ (at_some hk)).2⟩
    have AE : Hid ((z.take z.length).any f = z.any f) := Lib.hid (by rw [List.take_length])
    clear hc h hlt
    go_enter Try.func44, Try.ntmps44
    go_wp2_with fail
    go_loopw [8] (fun i wr => ∃ k : Nat, k ≤ z.length ∧ i = .int .i64 k ∧ (z.take k).any f = false ∧ Below w.heap.size w wr) (fun i _ => z.length - (intOf i).toNat)
    case atStart => exact ⟨0, by omega, rfl, by simp, Below.refl _ _⟩
    case round =>
      obtain ⟨k, hk, rfl, ha, qb⟩ := hrel
      have HA := Lib.hid ha; have QB := Lib.hid qb; clear ha qb
      by_cases hkl : k < z.length
      · obtain ⟨c0, c1⟩ := HC.out wr QB.out k hkl
        have e1 := Lib.hid (iany_take (f := f) hkl)
        have M1 := Lib.hid (mem_at hkl)
        have T1 := Lib.hid (HT.out wr QB.out _ _ (mem_at hkl))
        generalize nm z k = x at *
        generalize vl z k = y at *
        go_wp2_with fail
        rw [EF.out, Oper.upon_enter]
        refine T1.out.mono ?_
        rintro e w' ⟨rfl, b2⟩
        have B2 := Lib.hid (QB.out.trans (b2.mono QB.out.size)); clear b2
        cases ho : f (x, y)
        · have HO := Lib.hid ho; clear ho
          go_wp2
          go_roundw
          case rel => exact ⟨k + 1, by omega, by go_num, by rw [e1.out, HA.out, HO.out]; rfl, B2.out⟩
          case measure => simp [intOf]; omega
        · have HO := Lib.hid ho; clear ho
          go_wp2
          go_ret
          exact ⟨.inr ⟨⟨k, rfl⟩, List.any_eq_true.2 ⟨_, M1.out, HO.out⟩⟩, B2.out⟩
      · obtain rfl : k = z.length := by omega
        rw [AE.out] at HA
        go_wp2
        go_ret
        exact ⟨.inl ⟨rfl, HA.out⟩, QB.out⟩
theorem icontainsOn (F : Nat) (caps : Array Value) (f : Mc → Bool) {z : List Mc} {v : Value} {w : World} (h : McIn w v z) (eF : Ent F) (ht : ITestsOn z F caps f w) :
    Calls Try.prog 20 #[v, .func (.func F) #[] caps] w fun e w' => e = .returned (.bool (z.any f)) ∧ Below w.heap.size w w' := by
  have H := Lib.hid (iindexOn F caps f h eF ht)
  go_enter Try.func20, Try.ntmps20
  go_wp2_with fail
  refine H.out.mono ?_
  rintro e w' ⟨⟨rfl, ha⟩ | ⟨⟨k, rfl⟩, ha⟩, hb⟩
  · have HA := Lib.hid ha; have HB := Lib.hid hb; clear ha hb
    go_wp2
    go_ret
    rw [HA.out]; exact ⟨rfl, HB.out⟩
  · have HA := Lib.hid ha; have HB := Lib.hid hb; clear ha hb
    have hk : decide ((0 : Int) ≤ (k : Int)) = true := decide_eq_true (by omega)
    go_wp2
    go_ret
    rw [HA.out]; exact ⟨rfl, HB.out⟩
end Go.Proofs.Ytihiohohocfchaa
