/-
  What package line's Join answers, at every string. No condition.
-/
import Derived.Test.YtnfjcclblggbiaaDoorLCo
import Derived.Deep.Onto
namespace Go.Proofs.YtnfjcclblggbiaaDoor
open Go.ChangeShapes Go.WideShapes Go.ChangeAt Go.RowKit

theorem lines_length : ∀ (f n : Nat) (L : List Str), (linesF f n L).length ≤ L.length
  | 0, _, _ => by simp [linesF]
  | f + 1, n, [] => by simp [linesF]
  | f + 1, n, x :: r => by
    have hp := joinH_pos x r
    have ih := lines_length f (n + (joinH (x :: r)).2) ((x :: r).drop (joinH (x :: r)).2)
    have hl := joinH_le (x :: r)
    rw [linesF, if_neg (by simp), List.length_append]
    rw [List.length_drop] at ih
    simp only [List.length_cons] at ih hl ⊢
    split <;> simp <;> omega
theorem linesAt_length (n : Nat) (L : List Str) : (linesAt n L).length ≤ L.length := lines_length _ _ _
/-- one step of Join's loop -/
theorem lines_step {L : List Str} {p : Nat} (h : p < L.length) : ∃ (t : Str) (c : Nat), joinH (L.drop p) = (t, c) ∧ 0 < c ∧ p + c ≤ L.length ∧ t.length ≤ bulk L ∧
    linesAt p (L.drop p) = (if unc t = [] then [] else [(((p + 1 : Nat) : Int), unc t)]) ++ linesAt (p + c) (L.drop (p + c)) := by
  have hne : L.drop p ≠ [] := by intro e; have := congrArg List.length e; simp at this; omega
  obtain ⟨x, r, e⟩ := List.exists_cons_of_ne_nil hne
  have hp := joinH_pos x r
  have hl := joinH_le (L.drop p)
  rw [List.length_drop] at hl
  have hc := linesAt_cons p (L.drop p) hne
  have hb := Nat.le_trans (joinH_len (L.drop p)) (bulk_drop L p)
  rw [← e] at hp
  refine ⟨(joinH (L.drop p)).1, (joinH (L.drop p)).2, rfl, hp, by omega, hb, ?_⟩
  rw [hc, List.drop_drop]
theorem SIn.drop {w : World} {b off n cap : Nat} {z : List Str} (h : SIn w (.slice (some ⟨b, off, none⟩) n cap) z) {p : Nat} (hp : p < z.length) : SIn w (.slice (some ⟨b, off + p, none⟩) (n - p) (cap - p)) (z.drop p) := by
  obtain ⟨a, c, hv, h2, h3, h4, h5⟩ := h
  cases hv
  refine ⟨_, _, by rw [List.length_drop], by rw [List.length_drop]; omega, by rw [List.length_drop]; omega, fun x hx => h4 x (List.mem_of_mem_drop hx), ?_⟩
  rcases h5 with rfl | ⟨b', off', e, h6, h7⟩
  · simp at hp
  · cases e
    refine .inr ⟨b, off + p, rfl, h6, fun k hk => ?_⟩
    rw [List.length_drop] at hk
    have := h7 (p + k) (by omega)
    rw [Nat.add_assoc, this]
    simp [List.getD, List.getElem?_drop]
/-- byte k -/
def gB (S : ByteArray) (k : Nat) : UInt8 := S.data.toList.getD k 0
theorem may_nat (S : ByteArray) (k : Nat) (h : k < S.size) : S[k].toNat = (gB S k).toNat := by
  rw [byteAt_get S k h]; rfl
theorem may_all {S : ByteArray} (h : ∀ k, k < S.size → may (gB S k) = true) : S.data.toList.all may = true := by
  rw [List.all_eq_true]
  intro c hc
  obtain ⟨k, hk, rfl⟩ := List.mem_iff_getElem.1 hc
  have := h k (by rw [← size_list]; exact hk)
  unfold gB at this
  rw [List.getD, List.getElem?_eq_getElem hk] at this
  exact this
theorem may_bad {S : ByteArray} {k : Nat} (hk : k < S.size) (h : may (gB S k) = false) : S.data.toList.all may = false := by
  have hk' : k < S.data.toList.length := by rw [size_list]; exact hk
  unfold gB at h
  rw [List.getD, List.getElem?_eq_getElem hk'] at h
  rw [List.all_eq_false]
  exact ⟨_, List.getElem_mem hk', by rw [show S.data.toList[k] = (some S.data.toList[k]).getD 0 from rfl, h]; simp⟩
theorem bulk_text {s : Str} (h : s.length ≤ 20000) : bulk (phys s) ≤ 20001 := Nat.le_trans (bulk_phys s) (by omega)

theorem own_later {w w' : World} {base : Nat} {ty : TypeId} {size : Nat} {v : Value} {n : Nat} {xs : List Value} (h : w.ownsRow base ty size v n xs) (hb : Below w.heap.size w w') : w'.ownsRow base ty size v n xs :=
  h.kept (row := none) ⟨hb.os, hb.tape, hb.output, hb.size, fun k hk _ => hb.block k hk⟩ (by cases v.ownBlock <;> simp)
/-- what Join hands back -/
def JPost (s : Str) (w : World) (e : Ending) (w' : World) : Prop :=
  ∃ v, e = .returned (.tuple #[v, .int .i64 (joinR s).2]) ∧ w'.ownsRow w.heap.size 34 2 v (joinR s).1.length (lnCells (joinR s).1) ∧ Below w.heap.size w w'

set_option maxHeartbeats 4000000 in
set_option maxRecDepth 100000 in
/-- the loop over physical lines, from its first world on -/
theorem join_any (S : ByteArray) (w : World) (hs : S.size ≤ 9223372036854775807) (hm : MX w) :
    Calls Tryd.prog 7 #[.string S] w (JPost S.data.toList w) := by
  have hsz := size_list S
  by_cases hbig : 20000 < S.size
  · have e : Hid (joinR S.data.toList = ([], 2)) := Lib.hid (by unfold joinR; rw [if_pos (by omega)])
    clear hsz
    go_enter Tryd.func7, Tryd.ntmps7
    go_wp2
    go_ret2
    unfold JPost; rw [e.out]
    exact ⟨_, rfl, World.ownsRow_nil _ _ _ _, Below.refl _ _⟩
  have HF : Hid (∀ k (h : k < S.size), S[k].toNat = (gB S k).toNat) := may_nat S
  have E3 : Hid (∀ k, k < S.size → may (gB S k) = false → joinR S.data.toList = ([], 3)) := fun k hk h => by
    unfold joinR; rw [if_neg (by omega), may_bad hk h]; rfl
  have E0 : Hid ((∀ k, k < S.size → may (gB S k) = true) → joinR S.data.toList = (linesAt 0 (phys S.data.toList), 0)) := fun h => by
    unfold joinR; rw [if_neg (by omega), may_all h, if_pos rfl]
  have PH := Lib.hid (phys_any S.data.toList w (by omega) hm)
  rw [bs_of] at PH
  have PC := Lib.hid (phys_count S.data.toList)
  have PB := Lib.hid (bulk_text (s := S.data.toList) (by omega))
  have LL := Lib.hid (linesAt_length 0 (phys S.data.toList))
  have ST : Hid (∀ p, p < (phys S.data.toList).length → _) := fun p hp => lines_step (L := phys S.data.toList) (p := p) hp
  have SZ := Lib.hid hsz; clear hsz
  have MM := Lib.hid hm; clear hm
  generalize gB S = g at *
  generalize hS : S.data.toList = s at *
  have HS := Lib.hid hS; clear hS
  obtain ⟨i0, hi, hz0, hz1, hz2⟩ := info_parts infoLn
  have HI := Lib.hid hi; clear hi
  go_enter Tryd.func7, Tryd.ntmps7
  go_wp2_with fail
  go_loopw [16] (fun i wr => ∃ k : Nat, k ≤ S.size ∧ i = .int .i64 (k : Int) ∧ (∀ j, j < k → may (g j) = true) ∧ wr = w) (fun i _ => S.size - (intOf i).toNat)
  case atStart => exact ⟨0, by omega, rfl, fun _ h => absurd h (Nat.not_lt_zero _), rfl⟩
  case round =>
    obtain ⟨k, hk, rfl, hall, rfl⟩ := hrel
    have HA := Lib.hid hall; clear hall
    by_cases hlt : k < S.size
    · have hb := HF.out k hlt
      go_wp2_with fail
      clear hb
      refine (may_any (g k) _).mono ?_
      rintro e w' ⟨rfl, rfl⟩
      cases hd : may (g k) with
      | false =>
        have HD := Lib.hid (E3.out k hlt hd); clear hd
        go_wp2
        go_ret2
        unfold JPost; rw [HD.out]
        exact ⟨_, rfl, World.ownsRow_nil _ _ _ _, Below.refl _ _⟩
      | true =>
        have HD := Lib.hid hd; clear hd
        go_wp2
        go_roundw
        case rel =>
          refine ⟨k + 1, by omega, by go_num, fun j hj => ?_, trivial⟩
          rcases Nat.lt_succ_iff_lt_or_eq.1 hj with h | h
          · exact HA.out j h
          · rw [h]; exact HD.out
        case measure => simp [intOf]; omega
    · obtain rfl : k = S.size := by omega
      have HE := Lib.hid (E0.out HA.out)
      clear E3 E0 HA HF
      go_wp2_with fail
      refine PH.out.mono ?_
      rintro e w1 ⟨v1, rfl, q1, q2⟩
      have Q1 := Lib.hid q1; have Q2 := Lib.hid q2
      have M1 := Lib.hid (MM.out.later q2)
      clear q2
      rcases q1.open with ⟨hz, a, cap, rfl⟩ | ⟨hpos, b, off, cap, rfl, hcap, hlt', hc⟩
      · clear q1
        have HZ := Lib.hid hz; clear hz
        go_wp2_with fail
        refine wp_loop_rounds 1 ?_
        repeat any_goals (rw [rounds_succ]; go_wp2_with fail)
        go_ret2
        unfold JPost; rw [HE.out, HZ.out]
        exact ⟨_, rfl, World.ownsRow_nil _ _ _ _, Q2.out⟩
      · clear q1 hc hlt'
        generalize hL : phys s = L at *
        have hn : L.length ≤ 20000 := by have := PC.out; have := SZ.out; omega
        clear hL
        go_wp2_with fail
        go_loopw [6, 7] (fun s6 s7 wr => ∃ (p : Nat) (out : List Ln), p ≤ L.length ∧ s7 = .int .i64 (p : Int) ∧ wr.ownsRow w1.heap.size 34 2 s6 out.length (lnCells out) ∧ Below w1.heap.size w1 wr ∧ linesAt 0 L = out ++ linesAt p (L.drop p)) (fun _ s7 _ => L.length - (intOf s7).toNat)
        case atStart => exact ⟨0, [], Nat.zero_le _, rfl, World.ownsRow_nil _ _ _ _, Below.refl _ _, by simp⟩
        case round =>
          obtain ⟨p, out, hp, rfl, qo, qw, ql⟩ := hrel
          have QO := Lib.hid qo; have QW := Lib.hid qw; have QL := Lib.hid ql; clear qo qw ql
          by_cases hp2 : p < L.length
          · obtain ⟨t, c, st1, st2, st3, st4, st5⟩ := ST.out p hp2
            have C1 := Lib.hid (joinC_any ((Q1.out.later QW.out).drop hp2) (Nat.le_trans (bulk_drop L p) (by have := PB.out; omega)))
            rw [st1] at C1
            dsimp only at C1
            have T4 : t.length ≤ 20001 := by have := PB.out; omega
            have hol : out.length ≤ L.length := by have h1 := LL.out; rw [QL.out, List.length_append] at h1; omega
            have hux := unc_le t
            have S5 := Lib.hid st5; clear st1 st5 st4
            go_wp2_with fail
            refine C1.out.mono ?_
            rintro e w2 ⟨rfl, q⟩
            have W2 := Lib.hid (QW.out.trans (q.mono QW.out.size))
            have O2 := Lib.hid (own_later QO.out q)
            have U := Lib.hid (unc_any (bs t) w2 (by rw [bs_size]; omega) ((M1.out.later QW.out).later q))
            rw [bs_list] at U
            clear q
            go_wp2_with fail
            refine U.out.mono ?_
            rintro e w3 ⟨rfl, q⟩
            have W3 := Lib.hid (W2.out.trans (q.mono W2.out.size))
            have O3 := Lib.hid (own_later O2.out q)
            clear q U C1
            by_cases hu : unc t = []
            · have z : (bs (unc t)).toList.isEmpty = true := by rw [hu]; exact bs_none
              rw [if_pos hu] at S5
              clear hu hux
              go_wp2
              go_roundw
              case rel =>
                refine ⟨p + c, out, st3, by go_num, O3.out, W3.out, ?_⟩
                rw [QL.out, S5.out, List.nil_append]
              case measure => simp [intOf]; omega
            · have z : (bs (unc t)).toList.isEmpty = false := bs_some hu
              rw [if_neg hu] at S5
              clear hu
              have OA : Hid (∀ o, (w3.alloc o).ownsRow w1.heap.size 34 2 u6 out.length (lnCells out)) := fun o => O3.out.alloc o
              have SA : Hid (∀ o, w1.heap.size ≤ (w3.alloc o).heap.size) := fun o => by have := W3.out.size; simp; omega
              have LT : Hid (∀ k, u6.ownBlock = some k → w1.heap.size ≤ k) := fun k hk => (O3.out.lt k hk).1
              have WA : Hid (∀ o, Below w1.heap.size w1 (w3.alloc o)) := fun o => W3.out.alloc W3.out.size o
              generalize unc t = ut at *
              go_wp2_with (at_builtin; go_must (refine wpList_append_own _ rfl (.tmp 42) (.tmp 47) 22 rfl w1.heap.size 34 i0 (.agg #[.int .i64 0, .string ByteArray.empty]) 2 24 Tryd.underlying22 HI.out hz0 hz1 hz2 rfl (by decide) _ _ _ rfl (OA.out _) ⟨w3.heap.size, 0, none⟩ 1 1 [.int .i64 ((p : Int) + 1), .string (bs ut)] rfl rfl (cell_two_new' _ _ _ _) (by intro u hu; simp at hu; rcases hu with rfl | rfl <;> rfl) (by unfold maxLen; omega) (by omega) (SA.out _) ?_; intro v4 w4 q1 q2 q3; have O4 := Lib.hid q1; have G4 := Lib.hid q2; clear q1 q2 q3))
              go_roundw
              case rel =>
                refine ⟨p + c, out ++ [((p : Int) + 1, ut)], st3, by go_num, ?_, (WA.out _).grown G4.out (SA.out _) LT.out, ?_⟩
                · rw [List.length_append, lnCells_snoc]; exact O4.out
                · rw [QL.out, S5.out, List.append_assoc]; rfl
              case measure => simp [intOf]; omega
          · obtain rfl : p = L.length := by omega
            go_wp2
            go_ret2
            unfold JPost; rw [HE.out, QL.out, List.drop_length, linesAt_nil, List.append_nil]
            exact ⟨_, rfl, QO.out.mono Q2.out.size, Q2.out.trans (QW.out.mono Q2.out.size)⟩
end Go.Proofs.YtnfjcclblggbiaaDoor
