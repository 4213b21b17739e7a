/-
  Package infer: needsByTarget. Condition: at most 64 rules, each with a target.
-/
import Derived.Test.YtihiohohocfchaaIFr
import Derived.Deep.RegionLaw
namespace Go.Proofs.Ytihiohohocfchaa
set_option maxRecDepth 100000
set_option linter.unusedVariables false
open Go.ChangeShapes Go.WideShapes Go.ChangeAt Go.RowKit

def hd (z : List Rl) (k : Nat) : Str := (tg z k).getD 0 []
/-- f holds the needs by target, as they lie in w -/
def NM (z : List Rl) (f : Str → Option Value) (w : World) : Prop :=
  (∀ s x, f s = some x → ∃ k, k < z.length ∧ hd z k = s ∧ SIn w x (nd z k)) ∧ ∀ s, f s = none → ∀ k, k < z.length → hd z k ≠ s
def NMk (z : List Rl) (m : Nat) (f : Str → Option Value) (w : World) : Prop :=
  (∀ s x, f s = some x → ∃ k, k < m ∧ hd z k = s ∧ SIn w x (nd z k)) ∧ ∀ s, f s = none → ∀ k, k < m → hd z k ≠ s
theorem NMk.step {z : List Rl} {m : Nat} {f : Str → Option Value} {w : World} (h : NMk z m f w) {x : Value} (hx : SIn w x (nd z m)) : NMk z (m + 1) (upd f (hd z m) x) w := by
  refine ⟨fun s y hy => ?_, fun s hs k hk => ?_⟩
  · unfold upd at hy
    split at hy
    · rename_i e
      injection hy with hy
      subst hy
      exact ⟨m, by omega, e.symm, hx⟩
    · obtain ⟨k, hk, h1, h2⟩ := h.1 s y hy
      exact ⟨k, by omega, h1, h2⟩
  · unfold upd at hs
    split at hs
    · cases hs
    · rename_i e
      rcases Nat.lt_succ_iff_lt_or_eq.1 hk with h' | rfl
      · exact h.2 s hs k h'
      · exact fun e' => e e'.symm
set_option maxHeartbeats 4000000 in
theorem needsBy_any {w : World} {v : Value} {z : List Rl} (h : RIn w v z) (hL : z.length ≤ 64) (ht : ∀ k, k < z.length → 0 < (tg z k).length ∧ (hd z k).length ≤ maxLen) :
    Calls Try.prog 31 #[v] w fun e w' => ∃ f, e = .returned (.map (some w.heap.size)) ∧ MI w.heap.size z.length f w' ∧ NM z f w ∧ Below w.heap.size w w' := by
  have hmm := @run_makeMap Try.prog
  have M0 := Lib.hid (MI.made w)
  have HT := Lib.hid ht; clear ht
  have N0 : Hid (NMk z 0 (fun _ => none) w) := ⟨fun s x hx => (by cases hx), fun s _ k hk => absurd hk (Nat.not_lt_zero _)⟩
  obtain ⟨a, cap, rfl, hcap, _, _, h5⟩ := h
  have HC : Hid (∀ W, Below w.heap.size w W → ∀ k, k < z.length → ∃ b off tv uv, a = some ⟨b, off, none⟩ ∧ W.cell? ⟨b, off + k * 2, none⟩ = some tv ∧ W.cell? ⟨b, off + k * 2 + 1, none⟩ = some uv ∧ SIn w tv (tg z k) ∧ SIn w uv (nd z k)) := fun W hW k hk => by
    rcases h5 with rfl | ⟨b, off, ha, hlt, T, U, hc⟩
    · exact absurd hk (Nat.not_lt_zero _)
    · exact ⟨b, off, T k, U k, ha, cell_later hW (hc k hk).1, cell_later hW (hc k hk).2.1, (hc k hk).2.2.1, (hc k hk).2.2.2⟩
  clear h5
  have ST : Hid (∀ m f x, NMk z m f w → SIn w x (nd z m) → NMk z (m + 1) (upd f (hd z m) x) w) := fun m f x h hx => h.step hx
  generalize eL : z.length = L at *
  have EL := Lib.hid eL; clear eL
  go_enter Try.func31, Try.ntmps31
  go_wp2_with fail
  go_loopw [9] (fun i wr => ∃ (k : Nat) (f : Str → Option Value), k ≤ L ∧ i = .int .i64 (k : Int) ∧ MI w.heap.size k f wr ∧ NMk z k f w ∧ Below w.heap.size w wr) (fun i _ => L - (intOf i).toNat)
  case atStart => exact ⟨0, _, Nat.zero_le _, rfl, M0.out, N0.out, (Below.refl _ _).alloc (Nat.le_refl _) _⟩
  case round =>
    obtain ⟨k, f, hk, rfl, q1, q2, q3⟩ := hrel
    have Q1 := Lib.hid q1; have Q2 := Lib.hid q2; have Q3 := Lib.hid q3; clear q1 q2 q3
    by_cases hkl : k < L
    · obtain ⟨b, off, tv, uv, rfl, c0, c1, s0, s1⟩ := HC.out wr Q3.out k hkl
      obtain ⟨t0, t1⟩ := HT.out k hkl
      have HS := Lib.hid (ST.out k f uv Q2.out s1)
      have SH : hd z k = (tg z k).getD 0 [] := rfl
      rcases s0.open with ⟨e0, _⟩ | ⟨_, b3, off3, c3, rfl, _, _, h3⟩
      · rw [e0] at t0; exact absurd t0 (Nat.not_lt_zero _)
      have c3' := h3 0 t0
      rw [← SH, Nat.add_zero] at c3'
      clear SH
      obtain ⟨an', cn, rfl⟩ := s1.shape
      generalize hd z k = x at *
      generalize (tg z k).length = lt at *
      generalize (nd z k).length = ln at *
      have BA : Below w.heap.size w (wr.alloc (.cells #[.slice (some ⟨b3, off3, none⟩) lt c3, .slice an' ln cn] 40)) := Q3.out.alloc Q3.out.size _
      have BD : Below w.heap.size w (wr.alloc (.cells #[.slice (some ⟨b3, off3, none⟩) lt c3, .slice an' ln cn] 40)).drew := BA.drew
      have K0 := blk_new wr #[.slice (some ⟨b3, off3, none⟩) lt c3, .slice an' ln cn] 40
      have d0 := K0.cell (i := 0) rfl
      have d1 := K0.cell (i := 1) rfl
      have d2 := cell_later BA c3'
      obtain ⟨w3, r3, n3, g3, z3⟩ := ((Q1.out.alloc (.cells #[.slice (some ⟨b3, off3, none⟩) lt c3, .slice an' ln cn] 40)).later (Below.refl _ _).drew).store (t := 59) (e := 24) (x := x) Try.underlying59 (by unfold maxLen; omega) t1 (.slice an' ln cn)
      have N3 := Lib.hid n3
      have B3 : Hid (Below w.heap.size w w3) := BD.grown g3 BD.size (fun j hj => by injection hj with hj; omega)
      have p1 : (0 : Int) < (lt : Int) := by omega
      clear n3 g3 z3 s0 s1 h3 c3' BA BD K0
      go_wp2_with fail
      go_region
      all_goals go_wp2
      all_goals go_roundw
      case rel => exact ⟨k + 1, _, by omega, by go_num, N3.out, HS.out, B3.out⟩
      case measure => simp [intOf]; omega
    · obtain rfl : k = L := by omega
      go_wp2
      go_ret
      exact ⟨f, rfl, Q1.out, by unfold NM; rw [EL.out]; exact Q2.out, Q3.out⟩
end Go.Proofs.Ytihiohohocfchaa
