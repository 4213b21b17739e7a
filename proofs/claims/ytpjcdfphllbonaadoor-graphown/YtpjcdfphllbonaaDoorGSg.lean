/-
  The laws' own sameGraph at the same graphs, slices.Equal at the same edges, good of no error. No condition.
-/
import Derived.Test.YtpjcdfphllbonaaDoorGPa
import Derived.Test.YtpjcdfphllbonaaDoorGCt
import Derived.Laws.StructEq
import Derived.Deep.QuietTactic
namespace Go.Proofs.YtpjcdfphllbonaaDoor
set_option maxRecDepth 100000
set_option linter.unusedVariables false
open Go.ChangeShapes Go.WideShapes Go.ChangeAt Go.RowKit

set_option maxHeartbeats 4000000 in
theorem equalE_same {w : World} {v1 v2 : Value} {z : List Ed} (h1 : EIn w v1 z) (h2 : EIn w v2 z) :
    Calls Tryd.prog 31 #[v1, v2] w fun e w' => e = .returned (.bool true) ∧ ∃ q, w' = w.drewN q := by
  have hb := h1.bound
  obtain ⟨a, c, rfl, hc⟩ := ein_at h1
  obtain ⟨a', c', rfl, hc'⟩ := ein_at h2
  have HC := Lib.hid (hc w (Below.refl _ _)); have HC' := Lib.hid (hc' w (Below.refl _ _))
  clear hc hc' h1 h2
  generalize z.length = L at *
  go_enter Tryd.func31, Tryd.ntmps31
  go_wp2_with fail
  go_loopw [13] (fun i wr => ∃ k : Nat, k ≤ L ∧ i = .int .i64 k ∧ ∃ m, wr = w.drewN m) (fun i _ => L - (intOf i).toNat)
  case atStart => exact ⟨0, Nat.zero_le _, rfl, 0, rfl⟩
  case round =>
    obtain ⟨k, hk, rfl, m, rfl⟩ := hrel
    by_cases hkl : k < L
    · obtain ⟨b, off, rfl, c1, c2⟩ := HC.out k hkl
      obtain ⟨b', off', rfl, c3, c4⟩ := HC'.out k hkl
      generalize (edAt z k).1 = p at *
      generalize (edAt z k).2 = q at *
      have e1 : (p == p) = true := by simp
      have e2 : (q == q) = true := by simp
      go_wp2_with fail
      go_quiet (fail)
      go_wp2
      go_roundw
      case rel => exact ⟨k + 1, by omega, by go_num, _, rfl⟩
      case measure => simp [intOf]; omega
    · obtain rfl : k = L := by omega
      go_wp2
      go_ret
      exact ⟨rfl, _, rfl⟩
theorem GBlk.get4 {k : Nat} {nv ev : Value} {g : Gr} {w : World} (h : GBlk k nv ev g w) : w.cell? ⟨k, 0, none⟩ = some nv ∧ w.cell? ⟨k, 1, none⟩ = some ev ∧ w.cell? ⟨k, 2, none⟩ = some (.int .u64 (g.ph.toNat : Int)) ∧ w.cell? ⟨k, 3, none⟩ = some (.int .u64 (g.md.toNat : Int)) := h.get
set_option maxHeartbeats 4000000 in
theorem sameG_any {w : World} {v1 v2 : Value} {g : Gr} (h1 : GIn w v1 g) (h2 : GIn w v2 g) :
    Calls Tryd.prog 22 #[v1, v2] w fun e w' => e = .returned (.bool true) ∧ Below w.heap.size w w' := by
  obtain ⟨nv, ev, rfl, n1, e1⟩ := h1
  obtain ⟨nu, eu, rfl, n2, e2⟩ := h2
  have SN := Lib.hid (fun W (hW : Below w.heap.size w W) => equal_of (n1.later hW) (n2.later hW))
  have SE := Lib.hid (fun W (hW : Below w.heap.size w W) => equalE_same (e1.later hW) (e2.later hW))
  have HD : decide (g.ns = g.ns) = true := by simp
  rw [HD] at SN
  have W0 : Hid (Below w.heap.size w ((w.alloc (.cells #[nv, ev, .int .u64 (g.ph.toNat : Int), .int .u64 (g.md.toNat : Int)] 26)).alloc (.cells #[nu, eu, .int .u64 (g.ph.toNat : Int), .int .u64 (g.md.toNat : Int)] 26))) := (below_al w _).alloc (below_al w _).size _
  have k1 : GBlk w.heap.size nv ev g ((w.alloc (.cells #[nv, ev, .int .u64 (g.ph.toNat : Int), .int .u64 (g.md.toNat : Int)] 26)).alloc (.cells #[nu, eu, .int .u64 (g.ph.toNat : Int), .int .u64 (g.md.toNat : Int)] 26)) := (blk_new w _ 26).alloc _
  have k2 : GBlk (w.heap.size + 1) nu eu g ((w.alloc (.cells #[nv, ev, .int .u64 (g.ph.toNat : Int), .int .u64 (g.md.toNat : Int)] 26)).alloc (.cells #[nu, eu, .int .u64 (g.ph.toNat : Int), .int .u64 (g.md.toNat : Int)] 26)) := by
    have := blk_new (w.alloc (.cells #[nv, ev, .int .u64 (g.ph.toNat : Int), .int .u64 (g.md.toNat : Int)] 26)) #[nu, eu, .int .u64 (g.ph.toNat : Int), .int .u64 (g.md.toNat : Int)] 26
    rwa [show (w.alloc (.cells #[nv, ev, .int .u64 (g.ph.toNat : Int), .int .u64 (g.md.toNat : Int)] 26)).heap.size = w.heap.size + 1 by simp] at this
  obtain ⟨a0, a1, a2, a3⟩ := k1.get
  obtain ⟨b0, b1, b2, b3⟩ := k2.get
  obtain ⟨x1, y1, rfl⟩ := n1.shape2
  obtain ⟨x2, y2, rfl⟩ := e1.shape2
  obtain ⟨x3, y3, rfl⟩ := n2.shape2
  obtain ⟨x4, y4, rfl⟩ := e2.shape2
  clear n1 n2 e1 e2 k1 k2 HD
  generalize (g.ph.toNat : Int) = P at *
  generalize (g.md.toNat : Int) = Q at *
  generalize g.ns.length = L at *
  generalize g.es.length = M at *
  go_enter Tryd.func22, Tryd.ntmps22
  go_wp2_with fail
  refine (SN.out _ W0.out).mono ?_
  rintro e w' ⟨rfl, q, rfl⟩
  go_wp2_with fail
  refine (SE.out _ (below_drewN W0.out q)).mono ?_
  rintro e w' ⟨rfl, q2, rfl⟩
  go_wp2
  go_ret
  exact ⟨rfl, below_drewN W0.out _⟩
theorem bad_any (x : Int) (w : World) : Calls Tryd.prog 48 #[.int .i64 x] w fun e w' => e = .returned (.bool (x != 0)) ∧ w' = w := by
  go_enter Tryd.func48, Tryd.ntmps48
  go_wp2
  go_ret
  exact ⟨rfl, rfl⟩
set_option maxHeartbeats 1000000 in
theorem idxZ_any (b n : Nat) (w : World) (hn : n ≤ 64) (hc : ∀ i, i < n → w.cell? ⟨b, i, none⟩ = some (.int .i64 0)) :
    Calls Tryd.prog 60 #[.slice (some ⟨b, 0, none⟩) n n, .func (.func 48) #[] #[]] w fun e w' => e = .returned (.int .i64 (-1)) ∧ w' = w := by
  have en := enters_of Tryd.func48 (by kernel_rfl) rfl
  have HC := Lib.hid hc; clear hc
  go_enter Tryd.func60, Tryd.ntmps60
  go_wp2_with fail
  go_loopw [8] (fun i wr => ∃ k : Nat, k ≤ n ∧ i = .int .i64 k ∧ wr = w) (fun i _ => n - (intOf i).toNat)
  case atStart => exact ⟨0, Nat.zero_le _, rfl, rfl⟩
  case round =>
    obtain ⟨k, hk, rfl, rfl⟩ := hrel
    by_cases hkl : k < n
    · have c0 := HC.out k hkl
      go_wp2_with fail
      refine (bad_any 0 _).mono ?_
      rintro e w' ⟨rfl, rfl⟩
      go_wp2
      go_roundw
      case rel => exact ⟨k + 1, by omega, by go_num, trivial⟩
      case measure => simp [intOf]; omega
    · obtain rfl : k = n := by omega
      go_wp2
      go_ret
      exact ⟨rfl, rfl⟩
theorem conZ_any (b n : Nat) (w : World) (hn : n ≤ 64) (hc : ∀ i, i < n → w.cell? ⟨b, i, none⟩ = some (.int .i64 0)) :
    Calls Tryd.prog 47 #[.slice (some ⟨b, 0, none⟩) n n, .func (.func 48) #[] #[]] w fun e w' => e = .returned (.bool false) ∧ w' = w := by
  have IX := Lib.hid (idxZ_any b n w hn hc)
  clear hc hn
  go_enter Tryd.func47, Tryd.ntmps47
  go_wp2_with fail
  refine IX.out.mono ?_
  rintro e w' ⟨rfl, rfl⟩
  go_wp2
  go_ret
  exact ⟨rfl, rfl⟩
/-- no error is a good answer -/
theorem goodZ_any (b n : Nat) (w : World) (hn : n ≤ 64) (hc : ∀ i, i < n → w.cell? ⟨b, i, none⟩ = some (.int .i64 0)) :
    Calls Tryd.prog 25 #[.slice (some ⟨b, 0, none⟩) n n] w fun e w' => e = .returned (.bool true) ∧ w' = w := by
  have IX := Lib.hid (conZ_any b n w hn hc)
  clear hc hn
  go_enter Tryd.func25, Tryd.ntmps25
  go_wp2_with fail
  refine IX.out.mono ?_
  rintro e w' ⟨rfl, rfl⟩
  go_wp2
  go_ret
  exact ⟨rfl, rfl⟩
end Go.Proofs.YtpjcdfphllbonaaDoor
