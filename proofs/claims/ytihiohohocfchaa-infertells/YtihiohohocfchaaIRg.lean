/-
  The reference's InferFault and Inferred. Condition: the strings have at most 2^62 bytes.
-/
import Derived.Test.YtihiohohocfchaaIRf
namespace Go.Proofs.Ytihiohohocfchaa
set_option maxRecDepth 100000
set_option linter.unusedVariables false
open Go.ChangeShapes Go.WideShapes Go.ChangeAt Go.RowKit

theorem stemOf_of (s : Str) (hs : s.length < 4611686018427387904) (w : World) :
    Calls Try.prog 39 #[.string (bs s)] w fun e w' => e = .returned (.tuple #[.string (bs (stm s)), .string (bs (sfx s))]) ∧ ∃ q, w' = w.drewN q :=
  (stemOf_any (bs s) (by rw [bs_size]; exact hs) w).mono fun e w' h => ⟨stm_ret s h.1, h.2⟩
set_option maxHeartbeats 4000000 in
theorem rinferred_any {w : World} {v u : Value} {l : List Mc} {K : List Str} (h : IIn w v l) (hk : SIn w u K) (s : Str) (hs : s.length ≤ 4294967296) (h10 : ∀ k, k < l.length → (nm l k).length ≤ 10) :
    Calls Try.prog 14 #[v, u, .string (bs s)] w fun e w' => e = .returned (.tuple #[.string (bs (ofS (inf1 l K (stm s) (sfx s)))), .bool (inf1 l K (stm s) (sfx s)).isSome]) ∧ Below w.heap.size w w' := by
  have ST := Lib.hid (fun W => stemOf_of s (by omega) W)
  have SL : (stm s).length ≤ 4294967296 := Nat.le_trans (stm_len s) hs
  have FD : Hid (∀ W, Below w.heap.size w W → ∀ x, Calls Try.prog 40 #[u, .string (bs x)] W fun e w' => PlacePost K x e ∧ w' = W) := fun W hW x => place_of (hk.later hW) x
  obtain ⟨ak, ck, rfl⟩ := hk.shape
  generalize K.length = n at *
  generalize stm s = st at *
  generalize sfx s = sf at *
  have IH : Hid (∀ k, k < l.length → inf1 (l.take k) K st sf = none → vl l k = sf → st ++ nm l k ∈ K → inf1 l K st sf = some (st ++ nm l k)) := fun k a b c d => inf1_hit a b c d
  have IM : Hid (∀ k, k < l.length → inf1 (l.take k) K st sf = none → ¬ (vl l k = sf ∧ st ++ nm l k ∈ K) → inf1 (l.take (k + 1)) K st sf = none) := fun k a b c => inf1_miss a b c
  have IZ : Hid (inf1 (l.take 0) K st sf = none) := rfl
  have IE : Hid (inf1 (l.take l.length) K st sf = inf1 l K st sf) := Lib.hid (by rw [List.take_length])
  have hb := show l.length ≤ 8796093022208 by obtain ⟨⟨_, _, _, _, _, h4, _⟩, _⟩ := h; exact h4
  obtain ⟨⟨a, cap, rfl, hcap, _, _, h5⟩, _⟩ := h
  have HC : Hid (∀ W, Below w.heap.size w W → ∀ k, k < l.length → ∃ b off, a = some ⟨b, off, none⟩ ∧ W.cell? ⟨b, off + k * 2, none⟩ = some (.string (bs (nm l k))) ∧ W.cell? ⟨b, off + k * 2 + 1, none⟩ = some (.string (bs (vl l k)))) := fun W hW k hk => by
    rcases h5 with rfl | ⟨b, off, ha, hlt, hc⟩
    · exact absurd hk (Nat.not_lt_zero _)
    · have := hc k _ (at_some hk)
      exact ⟨b, off, ha, cell_later hW this.1, cell_later hW this.2⟩
  have HT := Lib.hid h10
  clear h5 h10 hs hk
  generalize eL : l.length = L at *
  clear eL
  go_enter Try.func14, Try.ntmps14
  go_wp2_with fail
  go_loopw [14] (fun i wr => ∃ k : Nat, k ≤ L ∧ i = .int .i64 (k : Int) ∧ inf1 (l.take k) K st sf = none ∧ Below w.heap.size w wr) (fun i _ => L - (intOf i).toNat)
  case atStart => exact ⟨0, Nat.zero_le _, rfl, IZ.out, Below.refl _ _⟩
  case round =>
    obtain ⟨k, hk, rfl, h0, qb⟩ := hrel
    have H0 := Lib.hid h0; have QB := Lib.hid qb; clear h0 qb
    by_cases hkl : k < L
    · obtain ⟨b, off, rfl, c0, c1⟩ := HC.out wr QB.out k hkl
      have I1 := Lib.hid (IH.out k hkl H0.out)
      have I2 := Lib.hid (IM.out k hkl H0.out)
      have hx := HT.out k hkl
      generalize nm l k = x at *
      generalize vl l k = y at *
      have z1 : (bs st).size ≤ 4294967296 := by rw [bs_size]; exact SL
      have z2 : (bs x).size ≤ 10 := by rw [bs_size]; exact hx
      have zz := bs_append st x
      have K0 := Lib.hid (blk_new wr #[.string (bs x), .string (bs y)] 47)
      have WA : Hid (Below w.heap.size w (wr.alloc (.cells #[.string (bs x), .string (bs y)] 47))) := QB.out.alloc QB.out.size _
      go_wp2_with fail
      refine (ST.out _).mono ?_
      rintro e w2 ⟨rfl, q2, rfl⟩
      have W2 : Hid (Below w.heap.size w ((wr.alloc (.cells #[.string (bs x), .string (bs y)] 47)).drewN q2)) := below_drewN WA.out q2
      have K2 : Blk wr.heap.size #[.string (bs x), .string (bs y)] 47 ((wr.alloc (.cells #[.string (bs x), .string (bs y)] 47)).drewN q2) := K0.out.later (below_drewN (Below.refl _ _) q2)
      have d0 := K2.cell (i := 0) rfl
      have d1 := K2.cell (i := 1) rfl
      clear K2 K0 c0 c1
      generalize (wr.alloc (.cells #[.string (bs x), .string (bs y)] 47)).drewN q2 = w3 at *
      by_cases hy : y = sf
      · have e1 : ((bs sf).toList == (bs y).toList) = true := by rw [bs_toList, bs_toList, beq_dec, decide_eq_true hy.symm]
        have HY := Lib.hid hy; clear hy
        go_wp2_with fail
        refine (FD.out _ W2.out (st ++ x)).mono ?_
        rintro e w4 ⟨⟨i, hi, hg, rfl⟩ | ⟨hno, rfl⟩, rfl⟩
        · have E := Lib.hid (I1.out HY.out (hg ▸ getD_mem hi))
          have t1 : decide ((i : Int) < 0) = false := decide_eq_false (by omega)
          have t2 : decide ((0 : Int) ≤ (i : Int)) = true := decide_eq_true (by omega)
          clear hg hi
          go_wp2
          go_ret2
          exact ⟨by rw [E.out]; rfl, W2.out⟩
        · have N1 := Lib.hid (I2.out (fun h => hno h.2))
          clear hno
          go_wp2
          go_roundw
          case rel => exact ⟨k + 1, by omega, by go_num, N1.out, W2.out⟩
          case measure => simp [intOf]; omega
      · have e1 : ((bs sf).toList == (bs y).toList) = false := by rw [bs_toList, bs_toList, beq_dec, decide_eq_false (fun h => hy h.symm)]
        have N1 := Lib.hid (I2.out (fun h => hy h.1))
        clear hy
        go_wp2
        go_roundw
        case rel => exact ⟨k + 1, by omega, by go_num, N1.out, W2.out⟩
        case measure => simp [intOf]; omega
    · obtain rfl : k = L := by omega
      have E : Hid (inf1 l K st sf = none) := Lib.hid (by rw [← IE.out]; exact H0.out)
      go_wp2
      go_ret2
      exact ⟨by rw [E.out]; rfl, QB.out⟩
end Go.Proofs.Ytihiohohocfchaa
