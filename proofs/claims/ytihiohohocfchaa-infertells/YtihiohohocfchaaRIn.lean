/-
  Rules in memory: what a slice of rules holds; what package rule's Check answers. Condition: a slice takes at most 2^47 bytes (the form says so).
-/
import Derived.Test.YtihiohohocfchaaNMergeB
import Derived.Deep.LoopGhost
namespace Go.Proofs.Ytihiohohocfchaa
set_option maxRecDepth 100000
set_option linter.unusedVariables false
open Go.ChangeShapes Go.WideShapes Go.ChangeAt Go.RowKit

abbrev Rl := List Str × List Str
def tg (z : List Rl) (k : Nat) : List Str := (z.getD k ([], [])).1
def nd (z : List Rl) (k : Nat) : List Str := (z.getD k ([], [])).2
theorem rl_some {z : List Rl} {k : Nat} (h : k < z.length) : z[k]? = some (tg z k, nd z k) := by
  unfold tg nd; rw [List.getD, List.getElem?_eq_getElem h]; rfl
theorem rl_mem {z : List Rl} {k : Nat} (h : k < z.length) : (tg z k, nd z k) ∈ z := List.mem_of_getElem? (rl_some h)
theorem rl_take {z : List Rl} {k : Nat} (h : k < z.length) : z.take (k + 1) = z.take k ++ [(tg z k, nd z k)] := by
  rw [List.take_add_one, rl_some h]; rfl
theorem rl_drop {z : List Rl} {k : Nat} (h : k < z.length) : z.drop k = (tg z k, nd z k) :: z.drop (k + 1) := by
  rw [List.drop_eq_getElem_cons h]
  have := rl_some h
  rw [List.getElem?_eq_getElem h] at this
  rw [Option.some.inj this]

/-- a slice that holds the rules z -/
def RIn (w : World) (v : Value) (z : List Rl) : Prop :=
  ∃ a cap, v = .slice a z.length cap ∧ z.length ≤ cap ∧ cap ≤ maxLen ∧ z.length ≤ 2932031007317 ∧
    (z = [] ∨ ∃ b off, a = some ⟨b, off, none⟩ ∧ b < w.heap.size ∧ ∃ T U : Nat → Value, ∀ k, k < z.length → w.cell? ⟨b, off + k * 2, none⟩ = some (T k) ∧ w.cell? ⟨b, off + k * 2 + 1, none⟩ = some (U k) ∧ SIn w (T k) (tg z k) ∧ SIn w (U k) (nd z k))
theorem RIn.later {w w' : World} {v : Value} {z : List Rl} (h : RIn w v z) (hb : Below w.heap.size w w') : RIn w' v z := by
  obtain ⟨a, cap, h1, h2, h3, h4, h5⟩ := h
  refine ⟨a, cap, h1, h2, h3, h4, ?_⟩
  rcases h5 with h5 | ⟨b, off, h5, h6, T, U, h7⟩
  · exact .inl h5
  · exact .inr ⟨b, off, h5, Nat.lt_of_lt_of_le h6 hb.size, T, U, fun k hk => ⟨cell_later hb (h7 k hk).1, cell_later hb (h7 k hk).2.1, (h7 k hk).2.2.1.later hb, (h7 k hk).2.2.2.later hb⟩⟩
theorem RIn.open {w : World} {v : Value} {z : List Rl} (h : RIn w v z) : (z = [] ∧ ∃ a cap, v = .slice a 0 cap) ∨
    (0 < z.length ∧ ∃ b off cap, v = .slice (some ⟨b, off, none⟩) z.length cap ∧ z.length ≤ cap ∧ b < w.heap.size ∧ ∃ T U : Nat → Value, ∀ k, k < z.length → w.cell? ⟨b, off + k * 2, none⟩ = some (T k) ∧ w.cell? ⟨b, off + k * 2 + 1, none⟩ = some (U k) ∧ SIn w (T k) (tg z k) ∧ SIn w (U k) (nd z k)) := by
  obtain ⟨a, cap, rfl, h2, _, _, h5⟩ := h
  by_cases h0 : z = []
  · subst h0; exact .inl ⟨rfl, a, cap, rfl⟩
  · rcases h5 with h5 | ⟨b, off, rfl, h6, h7⟩
    · exact absurd h5 h0
    · exact .inr ⟨List.length_pos_iff.2 h0, b, off, cap, rfl, h2, h6, h7⟩
theorem RIn.bound {w : World} {v : Value} {z : List Rl} (h : RIn w v z) : z.length ≤ 2932031007317 := by obtain ⟨_, _, _, _, _, h4, _⟩ := h; exact h4
theorem SIn.shape {w : World} {v : Value} {z : List Str} (h : SIn w v z) : ∃ a cap, v = .slice a z.length cap := by obtain ⟨a, cap, h, _⟩ := h; exact ⟨a, cap, h⟩
theorem infoRl : (Try.prog.info? 40).map (fun i => (i.zero, i.size, i.bytes)) = some (some (.agg #[.slice none 0 0, .slice none 0 0]), 2, 48) := by kernel_rfl

/-- the rule in block k stays -/
def StayR (k : Nat) (x : Value) (y : Value) (w : World) : Prop := w.heap[k]? = some (.cells #[x, y] 40 (0, 0))
theorem StayR.cells {k : Nat} {x y : Value} {w : World} (h : StayR k x y w) : w.cell? ⟨k, 0, none⟩ = some x ∧ w.cell? ⟨k, 1, none⟩ = some y := by
  unfold StayR at h
  unfold World.cell?
  simp [h]
theorem StayR.thaw {k : Nat} {x y : Value} {w : World} (h : StayR k x y w) : w.frozen? ⟨k, 0, none⟩ = false ∧ w.frozen? ⟨k, 1, none⟩ = false := by
  unfold StayR at h
  unfold World.frozen?
  simp [h]
theorem StayR.lt {k : Nat} {x y : Value} {w : World} (h : StayR k x y w) : k < w.heap.size := by
  rcases Nat.lt_or_ge k w.heap.size with h' | h'
  · exact h'
  · unfold StayR at h; simp [Array.getElem?_eq_none h'] at h
theorem StayR.later {k : Nat} {x y : Value} {w w' : World} (h : StayR k x y w) (hb : Below w.heap.size w w') : StayR k x y w' := (hb.block _ h.lt).trans h
theorem stayR_new (w : World) (x y : Value) : StayR w.heap.size x y (w.alloc (.cells #[x, y] 40)) := by unfold StayR; exact heap_alloc_new _ _

/-- the first fault of a rule -/
def chkR (r : Rl) : Int :=
  if 20 < r.1.length ∨ 20 < r.2.length then 2 else if r.1.length = 0 then 3 else if r.1.all good = false then 3 else if r.2.all good = false then 3
  else if (uniq r.1).length < r.1.length ∨ (uniq r.2).length < r.2.length then 6 else 0

set_option maxHeartbeats 2000000 in
set_option maxRecDepth 100000 in
theorem rcheck_any {w : World} {vt vn : Value} {t n : List Str} (ht : SIn w vt t) (hn : SIn w vn n) :
    Calls Try.prog 41 #[.agg #[vt, vn]] w fun e w' => e = .returned (.int .i64 (chkR (t, n))) ∧ Below w.heap.size w w' := by
  have BA : Hid (Below w.heap.size w (w.alloc (.cells #[vt, vn] 40))) := (Below.refl _ w).alloc (Nat.le_refl _) _
  have HT : Hid (SIn (w.alloc (.cells #[vt, vn] 40)) vt t) := ht.later BA.out
  have HU : Hid (SIn (w.alloc (.cells #[vt, vn] 40)) vn n) := hn.later BA.out
  have ST : Hid (StayR w.heap.size vt vn (w.alloc (.cells #[vt, vn] 40))) := stayR_new _ _ _
  have bt := ht.bound
  have bn := hn.bound
  have HP : Hid (∀ e : Int, chkR (t, n) = e → Ending.returned (.int .i64 e) = Ending.returned (.int .i64 (chkR (t, n)))) := fun e h => by rw [h]
  have hchk : chkR (t, n) = (if 20 < t.length ∨ 20 < n.length then 2 else if t.length = 0 then 3 else if t.all good = false then 3 else if n.all good = false then 3
      else if (uniq t).length < t.length ∨ (uniq n).length < n.length then 6 else 0) := rfl
  have UT := uniq_le t
  have UN := uniq_le n
  obtain ⟨at', ct, rfl⟩ := ht.shape
  obtain ⟨an, cn, rfl⟩ := hn.shape
  generalize chkR (t, n) = C at *
  clear ht hn
  generalize eT : t.length = lt at *
  generalize eN : n.length = ln at *
  have ET := Lib.hid eT; have EN := Lib.hid eN; clear eT eN
  generalize eUT : (uniq t).length = ut at *
  generalize eUN : (uniq n).length = un at *
  have EUT := Lib.hid eUT; have EUN := Lib.hid eUN; clear eUT eUN
  have HK := Lib.hid hchk; clear hchk
  by_cases h1 : 20 < lt
  · have E := Lib.hid (HP.out 2 (by rw [HK.out, if_pos (.inl h1)]))
    go_enter Try.func41, Try.ntmps41
    go_wp2
    go_ret
    exact ⟨E.out, BA.out⟩
  by_cases h2 : 20 < ln
  · have E := Lib.hid (HP.out 2 (by rw [HK.out, if_pos (.inr h2)]))
    go_enter Try.func41, Try.ntmps41
    go_wp2
    go_ret
    exact ⟨E.out, BA.out⟩
  rw [if_neg (by omega)] at HK
  by_cases h3 : lt = 0
  · have E := Lib.hid (HP.out 3 (by rw [HK.out, if_pos h3]))
    subst h3
    go_enter Try.func41, Try.ntmps41
    go_wp2
    go_ret
    exact ⟨E.out, BA.out⟩
  rw [if_neg h3] at HK
  have z1 : ((lt : Int) == 0) = false := by rw [beq_eq_false_iff_ne]; omega
  go_enter Try.func41, Try.ntmps41
  go_wp2_with fail
  refine (sort_any HT.out).mono ?_
  rintro e w1 (⟨g1, v1, rfl, o1, b1⟩ | ⟨g1, rfl, rfl⟩)
  · have W1 : Hid (Below w.heap.size w w1) := BA.out.trans (b1.mono (by simp))
    have S1 := Lib.hid (ST.out.later b1)
    have HU1 := Lib.hid (HU.out.later b1)
    obtain ⟨c0, c1⟩ := S1.out.cells
    obtain ⟨a1, k1, rfl⟩ := (SIn.own o1 (by rw [EUT.out]; omega) (small_all (good_uniq g1))).shape
    rw [EUT.out] at *
    rw [if_neg (by rw [g1]; decide)] at HK
    clear o1 b1 g1
    go_wp2_with fail
    refine (sort_any HU1.out).mono ?_
    rintro e w2 (⟨g2, v2, rfl, o2, b2⟩ | ⟨g2, rfl, rfl⟩)
    · have W2 : Hid (Below w.heap.size w w2) := W1.out.trans (b2.mono W1.out.size)
      have S2 := Lib.hid (S1.out.later b2)
      clear c0 c1
      obtain ⟨c0, c1⟩ := S2.out.cells
      obtain ⟨a2, k2, rfl⟩ := (SIn.own o2 (by rw [EUN.out]; omega) (small_all (good_uniq g2))).shape
      rw [EUN.out] at *
      rw [if_neg (by rw [g2]; decide)] at HK
      clear o2 b2 g2
      by_cases h4 : ut < lt
      · have E := Lib.hid (HP.out 6 (by rw [HK.out, if_pos (.inl h4)]))
        go_wp2
        go_ret
        exact ⟨E.out, W2.out⟩
      · by_cases h5 : un < ln
        · have E := Lib.hid (HP.out 6 (by rw [HK.out, if_pos (.inr h5)]))
          go_wp2
          go_ret
          exact ⟨E.out, W2.out⟩
        · have E := Lib.hid (HP.out 0 (by rw [HK.out, if_neg (by omega)]))
          go_wp2
          go_ret
          exact ⟨E.out, W2.out⟩
    · have E := Lib.hid (HP.out 3 (by rw [HK.out, if_pos g2]))
      clear g2
      go_wp2
      go_ret
      exact ⟨E.out, W1.out⟩
  · have E := Lib.hid (HP.out 3 (by rw [HK.out, if_pos g1]))
    clear g1
    go_wp2
    go_ret
    exact ⟨E.out, BA.out⟩
end Go.Proofs.Ytihiohohocfchaa
