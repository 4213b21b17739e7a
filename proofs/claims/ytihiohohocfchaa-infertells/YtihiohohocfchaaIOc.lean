/-
  The law InferOnce's own closures. No condition.
-/
import Derived.Test.YtihiohohocfchaaIHs
namespace Go.Proofs.Ytihiohohocfchaa
set_option maxRecDepth 100000
set_option linter.unusedVariables false
open Go.ChangeShapes Go.WideShapes Go.ChangeAt Go.RowKit

theorem sin_one {w : World} {v : Value} {x : Str} (h : SIn w v [x]) : ∃ b off cap, v = .slice (some ⟨b, off, none⟩) 1 cap ∧ ∀ W, Below w.heap.size w W → W.cell? ⟨b, off, none⟩ = some (.string (bs x)) := by
  rcases h.open with ⟨e, _⟩ | ⟨_, b, off, cap, rfl, _, _, hc⟩
  · cases e
  · refine ⟨b, off, cap, rfl, fun W hW => cell_later hW ?_⟩
    have := hc 0 (by simp)
    rw [Nat.add_zero] at this
    exact this
set_option maxHeartbeats 2000000 in
theorem once1_any {w : World} {v : Value} {l z : List Rl} (hr : RIn w v z) (hj : Joined l z) (t : Str) :
    Calls Try.prog 17 #[v, .string (bs t)] w fun e w' => ∃ a c, e = .returned (.slice a (needsR l t).length c) ∧ SIn w' (.slice a (needsR l t).length c) (needsR l t) ∧ Below w.heap.size w w' := by
  have hL := hj.rb.1
  have JT : Hid (∀ k, k < z.length → tg z k = [hd z k] ∧ nd z k = needsR l (hd z k)) := fun k hk => by
    have e := hj.tg hk
    have e2 : hd z k = (uniq (allT l)).getD k [] := by unfold hd; rw [e]; rfl
    rw [e2]
    exact ⟨e, hj.nd hk⟩
  have JN : Hid ((∀ j, j < z.length → hd z j ≠ t) → needsR l t = []) := fun h => needs_target fun hm => by
    obtain ⟨k, hk, e⟩ := mem_getD hm
    have hk' : k < z.length := by rw [hj.len]; exact hk
    refine h k hk' ?_
    unfold hd
    rw [hj.tg hk']
    exact e
  obtain ⟨a, cap, rfl, hcap, _, _, h5⟩ := hr
  have HC : Hid (∀ W, Below w.heap.size w W → ∀ k, k < z.length → ∃ b off tv uv, a = some ⟨b, off, none⟩ ∧ W.cell? ⟨b, off + k * 2, none⟩ = some tv ∧ W.cell? ⟨b, off + k * 2 + 1, none⟩ = some uv ∧ SIn W tv (tg z k) ∧ SIn W uv (nd z k)) := fun W hW k hk => by
    rcases h5 with rfl | ⟨b, off, ha, hlt, T, U, hc⟩
    · exact absurd hk (Nat.not_lt_zero _)
    · exact ⟨b, off, T k, U k, ha, cell_later hW (hc k hk).1, cell_later hW (hc k hk).2.1, (hc k hk).2.2.1.later hW, (hc k hk).2.2.2.later hW⟩
  clear h5 hj
  generalize eL : z.length = L at *
  clear eL
  go_enter Try.func17, Try.ntmps17
  go_wp2_with fail
  go_loopw [9] (fun i wr => ∃ k : Nat, k ≤ L ∧ i = .int .i64 (k : Int) ∧ (∀ j, j < k → hd z j ≠ t) ∧ Below w.heap.size w wr) (fun i _ => L - (intOf i).toNat)
  case atStart => exact ⟨0, Nat.zero_le _, rfl, fun j hj => absurd hj (Nat.not_lt_zero _), Below.refl _ _⟩
  case round =>
    obtain ⟨k, hk, rfl, ha, qb⟩ := hrel
    have HA := Lib.hid ha; have QB := Lib.hid qb; clear ha qb
    by_cases hkl : k < L
    · obtain ⟨b, off, tv, uv, rfl, c0, c1, s0, s1⟩ := HC.out wr QB.out k hkl
      obtain ⟨j1, j2⟩ := JT.out k hkl
      rw [j1] at s0
      rw [j2] at s1
      have HS : Hid (∀ j, j < k + 1 → hd z k ≠ t → hd z j ≠ t) := fun j hj hne => by
        rcases Nat.lt_succ_iff_lt_or_eq.1 hj with h | rfl
        · exact HA.out j h
        · exact hne
      obtain ⟨b3, off3, c3, rfl, h3⟩ := sin_one s0
      obtain ⟨an', cn, rfl⟩ := s1.shape
      have BA : Below wr.heap.size wr (wr.alloc (.cells #[.slice (some ⟨b3, off3, none⟩) 1 c3, .slice an' (needsR l (hd z k)).length cn] 40)) := (Below.refl _ _).alloc (Nat.le_refl _) _
      have WA := Lib.hid (QB.out.trans (BA.mono QB.out.size))
      have S1 := Lib.hid (s1.later BA)
      have K0 := blk_new wr #[.slice (some ⟨b3, off3, none⟩) 1 c3, .slice an' (needsR l (hd z k)).length cn] 40
      have d0 := K0.cell (i := 0) rfl
      have d1 := K0.cell (i := 1) rfl
      have d2 := h3 _ BA
      clear j1 j2 s0 s1 h3 BA K0
      generalize hd z k = x at *
      by_cases hx : x = t
      · subst hx
        have e1 : ((bs x).toList == (bs x).toList) = true := by simp
        clear HS
        generalize hln : (needsR l x).length = ln at *
        go_wp2
        go_ret
        exact ⟨an', cn, by rw [hln]; rfl, by rw [hln]; exact S1.out, WA.out⟩
      · have e1 : ((bs x).toList == (bs t).toList) = false := by rw [bs_toList, bs_toList, beq_dec, decide_eq_false hx]
        have HN := Lib.hid (fun j hj => HS.out j hj hx)
        clear hx S1
        generalize (needsR l x).length = ln at *
        go_wp2
        go_roundw
        case rel => exact ⟨k + 1, by omega, by go_num, HN.out, WA.out⟩
        case measure => simp [intOf]; omega
    · obtain rfl : k = L := by omega
      have E := Lib.hid (JN.out HA.out)
      have E0 : Hid ((needsR l t).length = 0) := Lib.hid (by rw [E.out]; rfl)
      go_wp2
      go_ret
      exact ⟨none, 0, by rw [E0.out]; rfl, by rw [E.out]; exact sin_nil _, QB.out⟩

theorem ent24 : Ent 24 := Try.call24
theorem ent23 : Ent 23 := Try.call23
theorem ent21 : Ent 21 := Try.call21
set_option maxHeartbeats 1000000 in
theorem t31_test {w : World} {bx : Nat} {tx ux : Value} {FF : List Rl} {x : Str} (K : Blk bx #[tx, ux] 40 w) (sx : SIn w tx [x]) (hF : ∀ r ∈ FF, ∃ s, r.1 = [s]) :
    RTestsOn FF 24 #[.pointer (some ⟨bx, 0, none⟩)] (fun r => decide (r.1.getD 0 [] = x)) w := by
  intro W hW tk nk hm tv uv s0 s1
  obtain ⟨s, hs⟩ := hF _ hm
  have hs' : tk = [s] := hs
  subst hs'
  have BA : Hid (Below W.heap.size W (W.alloc (.cells #[tv, uv] 40))) := (Below.refl _ _).alloc (Nat.le_refl _) _
  have BW := hW.trans (BA.out.mono hW.size)
  have K0 := blk_new W #[tv, uv] 40
  have K1 := K.later BW
  obtain ⟨b3, off3, c3, rfl, h3⟩ := sin_one s0
  obtain ⟨b4, off4, c4, rfl, h4⟩ := sin_one sx
  obtain ⟨an', k1, rfl⟩ := s1.shape
  have d0 := K0.cell (i := 0) rfl
  have d1 := K1.cell (i := 0) rfl
  have d2 := h3 _ BA.out
  have d3 := h4 _ BW
  have e1 : ((bs s).toList == (bs x).toList) = decide (s = x) := by rw [bs_toList, bs_toList, beq_dec]
  have e2 : (decide (List.getD [s] 0 [] = x)) = decide (s = x) := rfl
  clear s0 s1 h3 h4 K K0 K1 BW hW hs hm sx
  generalize nk.length = ln at *
  show Calls Try.prog 24 #[.agg #[.slice (some ⟨b3, off3, none⟩) 1 c3, .slice an' ln k1], .pointer (some ⟨bx, 0, none⟩)] W fun e w' => e = .returned (.bool (decide (List.getD [s] 0 [] = x))) ∧ Below W.heap.size W w'
  rw [e2]
  generalize decide (s = x) = q at *
  go_enter Try.func24, Try.ntmps24
  go_wp2_with fail
  go_quiet (fail)
  go_wp2
  go_ret
  exact ⟨rfl, below_drewN BA.out _⟩
set_option maxHeartbeats 1000000 in
theorem t3_test {w : World} {ba : Nat} {va : Value} {FF z : List Rl} (ca : w.cell? ⟨ba, 0, none⟩ = some va) (sa : RIn w va FF) (hF : ∀ r ∈ FF, ∃ s, r.1 = [s]) (hz : ∀ r ∈ z, ∃ s, r.1 = [s]) :
    RTestsOn z 23 #[.pointer (some ⟨ba, 0, none⟩)] (fun x => !(FF.any fun r => decide (r.1.getD 0 [] = x.1.getD 0 []))) w := by
  intro W hW tk nk hm tv uv s0 s1
  obtain ⟨s, hs⟩ := hz _ hm
  have hs' : tk = [s] := hs
  subst hs'
  have BA : Hid (Below W.heap.size W (W.alloc (.cells #[tv, uv] 40))) := (Below.refl _ _).alloc (Nat.le_refl _) _
  have BW := hW.trans (BA.out.mono hW.size)
  have CH := Lib.hid (rcontainsOn _ _ _ (sa.later BW) ent24 (t31_test (blk_new W #[tv, uv] 40) (s0.later BA.out) hF))
  obtain ⟨aa, ca', rfl, _⟩ := sa
  obtain ⟨at', k0, rfl⟩ := s0.shape
  obtain ⟨an', k1, rfl⟩ := s1.shape
  have d0 := cell_later BW ca
  clear s0 s1 ca BW hW hs hm
  generalize nk.length = ln at *
  generalize FF.length = lf at *
  show Calls Try.prog 23 #[.agg #[.slice at' [s].length k0, .slice an' ln k1], .pointer (some ⟨ba, 0, none⟩)] W fun e w' => e = .returned (.bool (!(FF.any fun r => decide (r.1.getD 0 [] = s)))) ∧ Below W.heap.size W w'
  generalize (FF.any fun r => decide (r.1.getD 0 [] = s)) = q at *
  generalize [s].length = lt at *
  go_enter Try.func23, Try.ntmps23
  go_wp2_with fail
  refine CH.out.mono ?_
  rintro e w2 ⟨rfl, b2⟩
  have B2 := Lib.hid (BA.out.trans (b2.mono BA.out.size))
  clear b2
  go_wp2
  go_ret
  exact ⟨rfl, B2.out⟩
set_option maxHeartbeats 1000000 in
theorem t2_test {w : World} {be bx bt : Nat} {tx ux : Value} {I : List Mc} {en st n : Str} (ce : w.cell? ⟨be, 0, none⟩ = some (.string (bs en))) (ct : w.cell? ⟨bt, 0, none⟩ = some (.string (bs st)))
    (K : Blk bx #[tx, ux] 40 w) (sx : SIn w ux [n]) (hst : st.length ≤ 4294967296) (hI : ∀ r ∈ I, r.1.length ≤ 4294967296) :
    ITestsOn I 21 #[.pointer (some ⟨be, 0, none⟩), .pointer (some ⟨bx, 0, none⟩), .pointer (some ⟨bt, 0, none⟩)] (fun y => decide (y.2 = en) && decide (n = st ++ y.1)) w := by
  intro W hW a b hm
  have ha := hI _ hm
  have BA : Hid (Below W.heap.size W (W.alloc (.cells #[.string (bs a), .string (bs b)] 47))) := (Below.refl _ _).alloc (Nat.le_refl _) _
  have BW := hW.trans (BA.out.mono hW.size)
  have K0 := blk_new W #[.string (bs a), .string (bs b)] 47
  have K1 := K.later BW
  obtain ⟨b4, off4, c4, rfl, h4⟩ := sin_one sx
  have d0 := K0.cell (i := 0) rfl
  have d1 := K0.cell (i := 1) rfl
  have d2 := K1.cell (i := 1) rfl
  have d3 := h4 _ BW
  have d4 := cell_later BW ce
  have d5 := cell_later BW ct
  have z1 : (bs st).size ≤ 4294967296 := by rw [bs_size]; exact hst
  have z2 : (bs a).size ≤ 4294967296 := by rw [bs_size]; exact ha
  have zz := bs_append st a
  have e2 : ((bs n).toList == (bs (st ++ a)).toList) = decide (n = st ++ a) := by rw [bs_toList, bs_toList, beq_dec]
  show Calls Try.prog 21 #[.agg #[.string (bs a), .string (bs b)], .pointer (some ⟨be, 0, none⟩), .pointer (some ⟨bx, 0, none⟩), .pointer (some ⟨bt, 0, none⟩)] W fun e w' => e = .returned (.bool (decide (b = en) && decide (n = st ++ a))) ∧ Below W.heap.size W w'
  have e1 : ((bs b).toList == (bs en).toList) = decide (b = en) := by rw [bs_toList, bs_toList, beq_dec]
  clear hm ha hst hI h4 ce ct K K0 K1 BW hW sx
  cases hb : decide (b = en)
  · rw [hb] at e1
    clear hb
    go_enter Try.func21, Try.ntmps21
    go_wp2_with fail
    go_quiet (fail)
    go_wp2
    go_ret
    exact ⟨rfl, below_drewN BA.out _⟩
  · rw [hb] at e1
    clear hb
    generalize decide (n = st ++ a) = q at *
    go_enter Try.func21, Try.ntmps21
    go_wp2_with fail
    go_quiet (fail)
    go_wp2
    go_ret
    exact ⟨by simp, below_drewN BA.out _⟩
end Go.Proofs.Ytihiohohocfchaa
