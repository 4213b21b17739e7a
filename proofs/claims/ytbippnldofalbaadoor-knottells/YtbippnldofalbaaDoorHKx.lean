/-
  The document's answer (package millwrightref) for knots: FoldedRows. No condition.
-/
import Derived.Test.YtbippnldofalbaaDoorHKr
import Derived.BigQuiet
namespace Go.Proofs.YtbippnldofalbaaDoor
set_option maxRecDepth 100000
set_option linter.unusedVariables false
open Go.ChangeShapes Go.WideShapes Go.ChangeAt Go.RowKit

/-- the first C of the numbers ns, in a block of their own behind b -/
def NB (a : Option Addr) (C : Nat) (ns : List Nat) (b : Nat) (W : World) : Prop := ∀ j, j < C → ∃ g, a = some ⟨g, 0, none⟩ ∧ b < g ∧ W.cell? ⟨g, j, none⟩ = some (.int .i64 ((iAt ns j : Nat) : Int))
theorem cell_lt {w : World} {g j : Nat} {x : Value} (h : w.cell? ⟨g, j, none⟩ = some x) : g < w.heap.size := by
  rcases Nat.lt_or_ge g w.heap.size with h' | h'
  · exact h'
  · unfold World.cell? at h; simp [Array.getElem?_eq_none h'] at h
theorem cell_at {w w' : World} {g j : Nat} (hb : w'.heap[g]? = w.heap[g]?) : w'.cell? ⟨g, j, none⟩ = w.cell? ⟨g, j, none⟩ := by
  unfold World.cell?; simp only [hb]
theorem NB.grown {a : Option Addr} {C b : Nat} {ns : List Nat} {W W' : World} (h : NB a C ns b W) (g : W.grownBy W' (some b)) : NB a C ns b W' := fun j hj => by
  obtain ⟨q, h1, h2, h3⟩ := h j hj
  exact ⟨q, h1, h2, (cell_at (g.block q (cell_lt h3) (fun e => by cases e; omega))).trans h3⟩
theorem nums_nb {s : Bv} {w w' : World} {e : Ending} {b : Nat} (h : NumsPost s w e w') (hb : b < w.heap.size) : ∃ a c, e = .returned (.slice a (cnt s) c) ∧ NB a (cnt s) (nums s) b w' ∧ Below w.heap.size w w' := by
  obtain ⟨v, rfl, h2, h3⟩ := h
  rw [← nums_length] at h2
  have o : NO w.heap.size v (nums s) w' := h2
  rcases o.2 with ⟨hv, h0⟩ | ⟨g, cap, cur, hv, hg, _⟩
  · rw [nums_length] at h0
    exact ⟨none, 0, by rw [hv, h0], fun j hj => by omega, h3⟩
  · subst hv
    refine ⟨_, cap, by rw [nums_length], fun j hj => ⟨g, rfl, by omega, NO.cell o (by rw [nums_length]; exact hj)⟩, h3⟩
set_option maxHeartbeats 16000000 in
theorem foldedRows_any {w : World} {v : Value} {r : List Bv} (h : WIn w v r) (hr : RowsIn r) :
    Calls Tryd.prog 16 #[v] w fun e w' => ∃ u, e = .returned u ∧ WIn w' u (foldR r) ∧ Below w.heap.size w w' := by
  obtain ⟨i0, hi, hz0, hz1, hz2⟩ := info_parts infoW
  have TP := Lib.hid (tiedParts_any h hr)
  have hl := hr.len
  have hpl := parts_le r
  obtain ⟨a, c, rfl, hc0⟩ := h
  have HC : Hid (∀ W, Below w.heap.size w W → ∀ k, k < r.length → ∃ b off, a = some ⟨b, off, none⟩ ∧ W.cell? ⟨b, off + k, none⟩ = some (.int .u64 ((wAt r k).toNat : Int))) := fun W hW k hk => by
    obtain ⟨b, off, e, c⟩ := hc0 k hk
    exact ⟨b, off, e, cell_later hW c⟩
  have NG : Hid (∀ i, i < (partsR r).length → ∀ j, j < cnt (wAt (partsR r) i) → iAt (nums (wAt (partsR r) i)) j < r.length ∧ (nums (wAt (partsR r) i))[j]? = some (iAt (nums (wAt (partsR r) i)) j)) := fun i hi j hj => by
    have hg := get_iAt (l := nums (wAt (partsR r) i)) (k := j) (by rw [nums_length]; exact hj)
    exact ⟨part_lt hr hi (nums_mem.1 (List.mem_of_getElem? hg)).2, hg⟩
  have F0 := Lib.hid (fo_zero r (partsR r))
  have FA : Hid (∀ O, Fo r (partsR r) (partsR r).length 0 false O → O = foldR r) := fun O h => fo_all h
  have CN : Hid (∀ i, cnt (wAt (partsR r) i) ≤ 64) := fun i => cnt_le _
  clear hr hc0
  generalize foldR r = FR at *
  generalize hp : partsR r = p at *
  clear hp
  have FW := Lib.hid (fun (O : List Bv) i (h : Fo r p i p.length false O) => fo_row h)
  have FN := Lib.hid (fun (O : List Bv) i k b (h : Fo r p i k b O) hb => fo_next h hb)
  have FY := Lib.hid (fun (O : List Bv) i k b (h : Fo r p i k b O) hi => fo_yes h hi)
  have FL : Hid (∀ O i k b, Fo r p i k b O → O.length = p.length) := fun O i k b h => h.1
  have AZ := Lib.hid (fun i k => any_zero r p i k)
  have AN := Lib.hid (fun i k j n (h : (nums (wAt p i))[j]? = some n) => any_next (r := r) (k := k) h)
  have AA := Lib.hid (fun i k => any_all r p i k)
  have MK := Lib.hid (fun W => run_make_full (P := Tryd.prog) W W.heap.size 22 32 i0 (.int .u64 0) 1 Tryd.underlying22 hi hz0 hz1 .i64 .i64 p.length (by rw [hz2]; omega) (by unfold maxLen; omega) (Nat.le_refl _))
  generalize hL : r.length = L at *
  clear hL hi hz0 hz1 hz2
  go_enter Tryd.func16, Tryd.ntmps16
  go_wp2_with fail
  refine TP.out.mono ?_
  rintro e w1 ⟨u, rfl, o1, b1⟩
  have B1 := Lib.hid b1
  have P1 := Lib.hid o1.win
  clear b1 o1 TP
  obtain ⟨w2, rmk, o2, g2⟩ := MK.out w1
  rw [zeros_w] at o2
  have G2 : Hid (Below w1.heap.size w1 w2) := (Below.refl _ _).grown g2 (Nat.le_refl _) (fun q hq => by cases hq)
  have B2 := Lib.hid (B1.out.trans (G2.out.mono B1.out.size))
  have P2 := Lib.hid (P1.out.later G2.out)
  obtain ⟨pa, pc, rfl, pc0⟩ := P2.out
  have PC : Hid (∀ W, Below w1.heap.size w1 W → ∀ k, k < p.length → ∃ b off, pa = some ⟨b, off, none⟩ ∧ W.cell? ⟨b, off + k, none⟩ = some (.int .u64 ((wAt p k).toNat : Int))) := fun W hW k hk => by
    obtain ⟨a', c', e, hh⟩ := P1.out.later hW
    cases e
    exact hh k hk
  have O2 : Hid (WO w1.heap.size (.slice (some ⟨w1.heap.size, 0, none⟩) p.length p.length) (List.replicate p.length 0#64) w2) := by
    show World.ownsRow _ _ _ _ _ _ _
    rw [List.length_replicate]; exact o2
  have HB := B1.out.size
  generalize hb : w1.heap.size = b at *
  have HBb := Lib.hid hb
  clear o2 g2 MK P1 P2 pc0 hb
  have GG : Hid (∀ W, Below b w1 W → Below w.heap.size w W) := fun W hW => B1.out.trans (hW.mono HB)
  generalize p.length = M at *
  go_wp2_with fail
  go_loopw [16] (fun i wr => ∃ (m : Nat) (O : List Bv), m ≤ M ∧ i = .int .i64 (m : Int) ∧ Fo r p m 0 false O ∧ WO b (.slice (some ⟨b, 0, none⟩) M M) O wr ∧ Below b w1 wr) (fun i _ => M - (intOf i).toNat)
  case atStart => exact ⟨0, _, Nat.zero_le _, rfl, F0.out, O2.out, G2.out⟩
  case round =>
    obtain ⟨m, O, hm, rfl, qt, qo, qb⟩ := hrel
    have QT := Lib.hid qt; have QO := Lib.hid qo; have QB := Lib.hid qb; clear qt qo qb
    by_cases hml : m < M
    · go_wp2_with fail
      go_loopw [21] (fun i wr => ∃ (k : Nat) (O : List Bv), k ≤ M ∧ i = .int .i64 (k : Int) ∧ Fo r p m k false O ∧ WO b (.slice (some ⟨b, 0, none⟩) M M) O wr ∧ Below b w1 wr) (fun i _ => M - (intOf i).toNat)
      case atStart => exact ⟨0, O, Nat.zero_le _, rfl, QT.out, QO.out, QB.out⟩
      case round =>
        obtain ⟨k, U, hk, rfl, pt, po, pb⟩ := hrel
        have PT := Lib.hid pt; have PO := Lib.hid po; have PB := Lib.hid pb; clear pt po pb
        rename World => W4
        by_cases hkl : k < M
        · obtain ⟨pb, poff, rfl, c1⟩ := PC.out W4 PB.out m hml
          have hbW : b < W4.heap.size := by
            rcases PO.out.2 with ⟨h, _⟩ | ⟨g, cap, cur, h, _, hg, _⟩
            · cases h
            · simp only [Value.slice.injEq, Option.some.injEq, Addr.mk.injEq, and_true] at h
              obtain ⟨rfl, _⟩ := h
              rcases Nat.lt_or_ge b W4.heap.size with h' | h'
              · exact h'
              · simp [Array.getElem?_eq_none h'] at hg
          have NU := Lib.hid ((numbers_any (wAt p m) W4).mono fun _ _ h => nums_nb h hbW)
          have NGm := Lib.hid (NG.out m hml)
          have ANm := Lib.hid (fun j n h => AN.out m k j n h)
          have AZm := AZ.out m k
          have AAm := AA.out m k
          have hcn := CN.out m
          generalize wAt p m = pm at *
          go_wp2_with fail
          refine NU.out.mono ?_
          rintro e w5 ⟨na, nc, rfl, n5, b5⟩
          have N5 := Lib.hid n5
          have B5 := Lib.hid (PB.out.trans (b5.mono (Nat.le_of_lt hbW)))
          have O5 : Hid (WO b (.slice (some ⟨b, 0, none⟩) M M) U w5) := Lib.hid (own_later PO.out b5)
          clear n5 b5 NU hbW c1
          generalize nums pm = ns at *
          generalize cnt pm = C at *
          go_wp2_with fail
          go_loopw [30] (fun i wq => ∃ (j : Nat) (V : List Bv), j ≤ C ∧ i = .int .i64 (j : Int) ∧ Fo r p m k (anyTo r p m k j) V ∧ WO b (.slice (some ⟨b, 0, none⟩) M M) V wq ∧ NB na C ns b wq ∧ Below b w1 wq) (fun i _ => C - (intOf i).toNat)
          case atStart => exact ⟨0, U, Nat.zero_le _, rfl, by rw [AZm]; exact PT.out, O5.out, N5.out, B5.out⟩
          case round =>
            obtain ⟨j, V, hj, rfl, rt, ro, rn, rb⟩ := hrel
            have RT := Lib.hid rt; have RO := Lib.hid ro; have RN := Lib.hid rn; have RB := Lib.hid rb; clear rt ro rn rb
            rename World => W6
            by_cases hjl : j < C
            · obtain ⟨g, rfl, hgb, cj⟩ := RN.out j hjl
              obtain ⟨n1, n2⟩ := NGm.out j hjl
              have AX := ANm.out j _ n2
              generalize iAt ns j = n at *
              obtain ⟨b', off, rfl, c0⟩ := HC.out W6 (GG.out _ RB.out) n n1
              obtain ⟨_, _, e, c2⟩ := PC.out W6 RB.out k hkl
              cases e
              have i1 : (n : Int) < (L : Int) := by omega
              have i2 : (k : Int) < (M : Int) := by omega
              have i3 : (m : Int) < (M : Int) := by omega
              have FNx := Lib.hid (fun V' b' (h : Fo r p m k b' V') => h)
              by_cases hmk : m = k
              · have t1 : ((m : Int) != (k : Int)) = false := by rw [hmk]; simp
                rw [decide_eq_false (by simp [hmk]), Bool.false_and, Bool.or_false] at AX
                have AX2 := Lib.hid AX
                clear AX hmk n2
                generalize wAt r n = x at *
                generalize wAt p k = y at *
                go_wp2_with fail
                go_quiet (fail)
                go_wp2
                go_roundw
                case rel => exact ⟨j + 1, V, by omega, by go_num, by rw [AX2.out]; exact RT.out, RO.out, RN.out, below_drewN RB.out _⟩
                case measure => simp [intOf]; omega
              · have t1 : ((m : Int) != (k : Int)) = true := by rw [bne_iff_ne]; omega
                rw [decide_eq_true hmk, Bool.true_and] at AX
                by_cases hz : wAt r n &&& wAt p k = 0#64
                · have t2 : (bits .and .u64 ((wAt r n).toNat : Int) ((wAt p k).toNat : Int) != 0) = false := by rw [bv_and, hz]; rfl
                  rw [decide_eq_false (by simp [hz]), Bool.or_false] at AX
                  have AX2 := Lib.hid AX
                  clear AX hmk n2 hz
                  generalize wAt r n = x at *
                  generalize wAt p k = y at *
                  go_wp2_with fail
                  go_quiet (fail)
                  go_wp2
                  go_roundw
                  case rel => exact ⟨j + 1, V, by omega, by go_num, by rw [AX2.out]; exact RT.out, RO.out, RN.out, below_drewN RB.out _⟩
                  case measure => simp [intOf]; omega
                · have t2 : (bits .and .u64 ((wAt r n).toNat : Int) ((wAt p k).toNat : Int) != 0) = true := by rw [bv_and, bv_ne_zero, bne_iff_ne]; exact hz
                  rw [decide_eq_true hz, Bool.or_true] at AX
                  have AX2 := Lib.hid AX
                  have ul := FL.out _ _ _ _ RT.out
                  have NX := Lib.hid (FY.out _ _ _ _ RT.out hml)
                  have hk64 : (k : Int) < 64 := by omega
                  have OA : WO b (.slice (some ⟨b, 0, none⟩) V.length M) V W6 := by rw [ul]; exact RO.out
                  have cr := OA.cell (i := m) (by omega)
                  have fr := OA.frozen m
                  obtain ⟨O7, G7⟩ := OA.store m (one k)
                  have e1 : bits .or .u64 ((wAt V m).toNat : Int) (IntKind.u64.wrap (2 ^ k)) = ((wAt V m ||| one k).toNat : Int) := by rw [one_walk k (by omega), bv_or]
                  have O7' := Lib.hid O7
                  have hsz : b ≤ W6.heap.size := by have := RB.out.size; rw [HBb.out] at this; exact this
                  have B7 := Lib.hid (below_grown' RB.out G7 hsz (Nat.le_refl _))
                  have N7 := Lib.hid (RN.out.grown G7)
                  rw [ul] at O7'
                  clear AX hmk n2 hz O7 G7 OA
                  generalize wAt r n = x at *
                  generalize wAt p k = y at *
                  generalize ((wAt V m).toNat : Int) = q at *
                  generalize ((wAt V m ||| one k).toNat : Int) = z at *
                  go_wp2_with fail
                  go_quiet (fail)
                  go_wp2_with fail
                  go_region
                  go_wp2
                  go_roundw
                  case rel => exact ⟨j + 1, _, by omega, by go_num, by rw [AX2.out]; exact NX.out, O7'.out, N7.out, ⟨B7.out.os, B7.out.tape, B7.out.output, B7.out.size, B7.out.block⟩⟩
                  case measure => simp [intOf]; omega
            · obtain rfl : j = C := by omega
              rw [AAm] at RT
              have NX := Lib.hid (FN.out _ _ _ _ RT.out rfl)
              go_wp2
              go_roundw
              case rel => exact ⟨k + 1, V, by omega, by go_num, NX.out, RO.out, RB.out⟩
              case measure => simp [intOf]; omega
        · obtain rfl : k = M := by omega
          have NX := Lib.hid (FW.out _ _ PT.out)
          go_wp2
          go_roundw
          case rel => exact ⟨m + 1, U, by omega, by go_num, NX.out, PO.out, PB.out⟩
          case measure => simp [intOf]; omega
    · obtain rfl : m = M := by omega
      have E := FA.out O QT.out
      subst E
      have hfl := FL.out _ _ _ _ QT.out
      go_wp2
      go_ret
      exact ⟨_, rfl, by have := QO.out.win; exact this, GG.out _ QB.out⟩
end Go.Proofs.YtbippnldofalbaaDoor
