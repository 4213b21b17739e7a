/-
  slices.ContainsFunc at rules, whatever the test; the law RuleJoin's own two tests. No condition.
-/
import Derived.Test.YtihiohohocfchaaRJw
namespace Go.Proofs.Ytihiohohocfchaa
set_option maxRecDepth 100000
set_option linter.unusedVariables false
open Go.ChangeShapes Go.WideShapes Go.ChangeAt Go.RowKit

/-- the function has a body -/
def Ent (F : Nat) : Prop := ∀ (args : Array Value) (w : World), Sem.run Try.prog (callFunc F args) w = .ok (.enter F args) w
/-- a function value that tests a rule -/
def RTests (F : Nat) (caps : Array Value) (f : Rl → Bool) (w : World) : Prop :=
  ∀ W, Below w.heap.size w W → ∀ (t n : List Str) tv uv, SIn W tv t → SIn W uv n → Calls Try.prog F (#[.agg #[tv, uv]] ++ caps) W fun e w' => e = .returned (.bool (f (t, n))) ∧ Below W.heap.size W w'
theorem any_take {z : List Rl} {f : Rl → Bool} {k : Nat} (h : k < z.length) : (z.take (k + 1)).any f = ((z.take k).any f || f (tg z k, nd z k)) := by
  rw [rl_take h, List.any_append]; simp
set_option maxHeartbeats 1000000 in
set_option maxRecDepth 100000 in
theorem rindex_any (F : Nat) (caps : Array Value) (f : Rl → Bool) {z : List Rl} {v : Value} {w : World} (h : RIn w v z) (eF : Ent F) (ht : RTests F caps f w) :
    Calls Try.prog 45 #[v, .func (.func F) #[] caps] w fun e w' =>
      ((e = .returned (.int .i64 (-1)) ∧ z.any f = false) ∨ ((∃ k : Nat, e = .returned (.int .i64 (k : Int))) ∧ z.any f = true)) ∧ Below w.heap.size w w' := by
  have HL := Lib.hid h.bound
  have HT := Lib.hid ht; clear ht
  have EF := Lib.hid eF; clear eF
  rcases h.open with ⟨rfl, a, cap, rfl⟩ | ⟨hp, b, off, cap, rfl, hcap, hlt, T, U, hc⟩
  · clear h
    go_enter Try.func45, Try.ntmps45
    go_wp2_with fail
    go_rounds 1
    go_ret
    exact ⟨.inl ⟨rfl, rfl⟩, Below.refl _ _⟩
  · have HC : Hid (∀ W, Below w.heap.size w W → ∀ k, k < z.length → W.cell? ⟨b, off + k * 2, none⟩ = some (T k) ∧ W.cell? ⟨b, off + k * 2 + 1, none⟩ = some (U k) ∧ SIn W (T k) (tg z k) ∧ SIn W (U k) (nd z k)) := fun W hW k hk => ⟨cell_later hW (hc k hk).1, cell_later hW (hc k hk).2.1, (hc k hk).2.2.1.later hW, (hc k hk).2.2.2.later hW⟩
    have AE : Hid ((z.take z.length).any f = z.any f) := Lib.hid (by rw [List.take_length])
    clear hc h hlt
    go_enter Try.func45, Try.ntmps45
    go_wp2_with fail
    go_loopw [8] (fun i wr => ∃ k : Nat, k ≤ z.length ∧ i = .int .i64 k ∧ (z.take k).any f = false ∧ Below w.heap.size w wr) (fun i _ => z.length - (intOf i).toNat)
    case atStart => exact ⟨0, by omega, rfl, by simp, Below.refl _ _⟩
    case round =>
      obtain ⟨k, hk, rfl, ha, qb⟩ := hrel
      have HA := Lib.hid ha; have QB := Lib.hid qb; clear ha qb
      by_cases hkl : k < z.length
      · obtain ⟨c0, c1, s0, s1⟩ := HC.out wr QB.out k hkl
        have hz := HL.out
        have e1 := Lib.hid (any_take (f := f) hkl)
        have M1 := Lib.hid (rl_mem hkl)
        have T1 := Lib.hid (HT.out wr QB.out _ _ _ _ s0 s1)
        generalize T k = tv at *
        generalize U k = uv at *
        generalize tg z k = tk at *
        generalize nd z k = nk at *
        obtain ⟨at', ct, rfl⟩ := s0.shape
        obtain ⟨an', cn, rfl⟩ := s1.shape
        clear s0 s1
        generalize tk.length = lt at *
        generalize nk.length = ln at *
        go_wp2_with fail
        rw [EF.out, Oper.upon_enter]
        refine T1.out.mono ?_
        rintro e w' ⟨rfl, b2⟩
        have B2 := Lib.hid (QB.out.trans (b2.mono QB.out.size)); clear b2
        cases ho : f (tk, nk)
        · have HO := Lib.hid ho; clear ho
          go_wp2
          go_roundw
          case rel => exact ⟨k + 1, by omega, by go_num, by rw [e1.out, HA.out, HO.out]; rfl, B2.out⟩
          case measure => simp [intOf]; omega
        · have HO := Lib.hid ho; clear ho
          go_wp2
          go_ret
          exact ⟨.inr ⟨⟨k, rfl⟩, List.any_eq_true.2 ⟨_, M1.out, HO.out⟩⟩, B2.out⟩
      · obtain rfl : k = z.length := by omega
        rw [AE.out] at HA
        go_wp2
        go_ret
        exact ⟨.inl ⟨rfl, HA.out⟩, QB.out⟩
theorem rcontains_any (F : Nat) (caps : Array Value) (f : Rl → Bool) {z : List Rl} {v : Value} {w : World} (h : RIn w v z) (eF : Ent F) (ht : RTests F caps f w) :
    Calls Try.prog 22 #[v, .func (.func F) #[] caps] w fun e w' => e = .returned (.bool (z.any f)) ∧ Below w.heap.size w w' := by
  have H := Lib.hid (rindex_any F caps f h eF ht)
  go_enter Try.func22, Try.ntmps22
  go_wp2_with fail
  refine H.out.mono ?_
  rintro e w' ⟨⟨rfl, ha⟩ | ⟨⟨k, rfl⟩, ha⟩, hb⟩
  · have HA := Lib.hid ha; have HB := Lib.hid hb; clear ha hb
    go_wp2
    go_ret
    rw [HA.out]; exact ⟨rfl, HB.out⟩
  · have HA := Lib.hid ha; have HB := Lib.hid hb; clear ha hb
    have hk : decide ((0 : Int) ≤ (k : Int)) = true := decide_eq_true (by omega)
    go_wp2
    go_ret
    rw [HA.out]; exact ⟨rfl, HB.out⟩

/-- the rule has the target and the need -/
def hasR (t n : Str) (r : Rl) : Bool := decide (t ∈ r.1) && decide (n ∈ r.2)
def isR (t : Str) (r : Rl) : Bool := decide (t ∈ r.1)
/-- a row of one's own holds its rules -/
theorem RO.rin {B : Nat} {v : Value} {z : List Rl} {w : World} (h : RO B v z w) (hn : z.length ≤ 2932031007317) (hx : ∀ r ∈ z, (r.1.length ≤ 17592186044416 ∧ r.2.length ≤ 17592186044416) ∧ (∀ x ∈ r.1, x.length ≤ 9223372036854775807) ∧ ∀ x ∈ r.2, x.length ≤ 9223372036854775807) : RIn w v z := by
  obtain ⟨c, hcl, ho, he, _⟩ := h
  have hr := ho.2
  rcases hr with ⟨hv, h0⟩ | ⟨g, cap, cur, hv, hb, hg, hc, hm, hs, ht⟩
  · have : z = [] := List.length_eq_zero_iff.1 h0
    subst this
    exact ⟨none, 0, hv, Nat.le_refl _, Nat.zero_le _, Nat.zero_le _, .inl rfl⟩
  · refine ⟨_, cap, hv, hc, hm, hn, .inr ⟨g, 0, rfl, ?_, fun k => (c.getD k (.slice none 0 0, .slice none 0 0)).1, fun k => (c.getD k (.slice none 0 0, .slice none 0 0)).2, fun k hk => ?_⟩⟩
    · rcases Nat.lt_or_ge g w.heap.size with h' | h'
      · exact h'
      · simp [Array.getElem?_eq_none h'] at hg
    · have hkc : k < c.length := by omega
      have hp := List.getElem?_eq_getElem hkc
      have hcs := ho.cells (g := g) (by rw [hv]; rfl)
      obtain ⟨h1, h2⟩ := rcells_at c k _ hp
      have e1 := hcs _ _ h1
      have e2 := hcs _ _ h2
      rw [add_off] at e1 e2
      obtain ⟨q1, q2⟩ := he k _ hp
      obtain ⟨⟨b1, b2⟩, b3, b4⟩ := hx _ (rl_mem hk)
      have hgd : c.getD k (.slice none 0 0, .slice none 0 0) = c[k] := by rw [List.getD, hp]; rfl
      simp only [hgd, Nat.zero_add]
      exact ⟨e1, e2, SIn.own q1 b1 b3, SIn.own q2 b2 b4⟩
end Go.Proofs.Ytihiohohocfchaa
