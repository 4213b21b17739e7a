/-
  What the reference's TimesSorted answers: a new row of the same numbers, sorted by rank. Condition: a slice takes fewer than 2^47 bytes (the form says so).
-/
import Derived.Test.YtejceacoopgjkaaTRef
import Derived.Test.YtejceacoopgjkaaSelP
import Derived.Deep.RegionLaw
import Derived.Deep.AppendSrc
namespace Go.Proofs.Ytejceacoopgjkaa
open Go.ChangeShapes Go.WideShapes Go.ChangeAt Go.RowKit

/-- the cells of the new row -/
def rowCells (w : World) (e : TypeId) (z : Value) (n m cap : Nat) (olds news : List Value) : Array Value := (olds ++ news).toArray ++ Builtin.zeroCells z.cells (grownCap w (n + m) cap e - (n + m))
theorem rowCells_take (w : World) (e : TypeId) (z : Value) (n m cap : Nat) (olds news : List Value) (h1 : olds.length = n) (h2 : news.length = m) : (rowCells w e z n m cap olds news).toList.take (n + m) = olds ++ news := by
  unfold rowCells
  rw [Array.toList_append, List.take_left' (by simp [h1, h2])]
/-- append onto a slice without room, as one step of a region that draws: a new row -/
theorem step_append_new {P : Program} {ops : Array Oper} {o : Oper} {a : Act} {w : World} {K : Act → World → Prop} {Q : Exit → Act → World → Prop} {E : Prop}
    (hg : o.guard = none) (s x : Operand) (t : TypeId) (hop : o.op = Op.call { callee := Callee.builtin Builtin.append, args := #[s, x], argTypes := #[t, t] })
    (e : TypeId) (i : TypeInfo) (z : Value) (h1 : P.underlying t = some (.slice e)) (h2 : P.info? e = some i) (h3 : i.zero = some z) (h4 : i.size = 1) (h5 : i.bytes = 8)
    (b : Addr) (n cap : Nat) (olds : List Value) (hs : a.eval s = .slice (some b) n cap) (hol : olds.length = n) (ho : ∀ j u, olds[j]? = some u → w.cell? (b.add j) = some u)
    (ad : Addr) (m c : Nat) (news : List Value) (hx : a.eval x = .slice (some ad) m c) (hn : news.length = m) (hc : ∀ j u, news[j]? = some u → w.cell? (ad.add j) = some u) (h1c : ∀ u ∈ news, u.oneCell' = true)
    (hroom : cap < n + m) (hbig : n + m ≤ 17592186044416)
    (hK : K (a.put o.dst (.slice (some ⟨w.heap.size, 0, none⟩) (n + m) (grownCap w (n + m) cap e))) (w.drew.alloc (.cells (rowCells w e z n m cap olds news) e))) :
    if Region.wanted o (yielded ops a.tmps) = true then Oper.wp P o a w K Q else E := by
  have hw : Region.wanted o (yielded ops a.tmps) = true := by simp [Region.wanted, hg]
  rw [if_pos hw]
  have hrun := run_append_grow_src (P := P) w t t o.type e i z h1 h2 h3 (some b) n cap olds
    (run_firstCells_some w.drew i.size n b n cap olds (by rw [h4, hol, Nat.mul_one]) (by simpa using ho)) (.slice (some ad) m c) m news
    (Src.ofSlice w h1 ad m c news (by rw [h4, hn, Nat.mul_one]) hc h1c) hroom (by omega) (growslice_fits hroom (by rw [h5]; omega))
  unfold Oper.wp
  simp [execOp, hop, resolve, invoke, builtin, hs, hx, hrun, Result.andThen]
  exact hK

def lenV : Value → Nat | .slice _ n _ => n | _ => 0
def fv (l : List Nat) : List Value := l.map fun x => Value.float .f64 x
theorem fv_length (l : List Nat) : (fv l).length = l.length := by simp [fv]
theorem fv_get {l : List Nat} {i : Nat} (h : i < l.length) : (fv l)[i]? = some (.float .f64 l[i]) := by simp [fv, h]
theorem fv_append (l m : List Nat) : fv (l ++ m) = fv l ++ fv m := by simp [fv]
theorem fv_one (l : List Nat) : ∀ u ∈ fv l, u.oneCell' = true := by intro u hu; simp [fv] at hu; obtain ⟨_, _, rfl⟩ := hu; rfl

/-- the numbers of l lie at the head of block g -/
def LRow (w : World) (base g : Nat) (l : List Nat) : Prop := base ≤ g ∧ g < w.heap.size ∧ ∀ i, (h : i < l.length) → w.cell? ⟨g, i, none⟩ = some (.float .f64 l[i])
/-- what the sort's loop keeps -/
def TInv (l0 : List Nat) (w : World) (left out : Value) (wr : World) : Prop :=
  ∃ L O : List Nat, Sel l0 O L ∧ Below w.heap.size w wr ∧ wr.ownsRow w.heap.size 22 1 out O.length (fv O) ∧
    (L = [] ∧ (∃ a c, left = .slice a 0 c) ∨ 0 < L.length ∧ ∃ g cap, left = .slice (some ⟨g, 0, none⟩) L.length cap ∧ L.length ≤ cap ∧ cap ≤ maxLen ∧ LRow wr w.heap.size g L ∧ out.ownBlock ≠ some g)

theorem LRow.kept {w w' : World} {base g : Nat} {l : List Nat} {row : Option Nat} (h : LRow w base g l) (hg : w.grownBy w' row) (hne : row ≠ some g) : LRow w' base g l :=
  ⟨h.1, Nat.lt_of_lt_of_le h.2.1 hg.size, fun i hi => hg.cell (h.2.2 i hi) (fun e => hne e.symm)⟩

/-- the index of the least so far -/
def MinAt (l : List Nat) (i k : Nat) : Prop := ∃ hk : k < l.length, ∀ j, j < i → (hj : j < l.length) → rank l[k] ≤ rank l[j]

theorem ord_neg {a b : Nat} : ord a b < 0 ↔ rank a < rank b := by
  unfold ord; split
  · constructor <;> intro h <;> omega
  · split <;> constructor <;> intro h <;> omega
theorem addr0 (g j : Nat) : (⟨g, 0, none⟩ : Addr).add j = ⟨g, j, none⟩ := by unfold Addr.add; by_cases h : j = 0 <;> simp [h]
theorem addrK (g k j : Nat) : (⟨g, k, none⟩ : Addr).add j = ⟨g, k + j, none⟩ := by unfold Addr.add; by_cases h : j = 0 <;> simp [h]

theorem tinv_new {l0 L O : List Nat} {k g2 cap2 cap' : Nat} {w w2 : World} {C : Array Value} (hk : k < L.length) (hm : k + 1 < L.length) (hsel : Sel l0 (O ++ [L[k]]) (L.eraseIdx k)) (hbel : Below w.heap.size w w2)
    (hown : w2.ownsRow w.heap.size 22 1 (.slice (some ⟨g2, 0, none⟩) (O.length + 1) cap2) (O.length + 1) (fv O ++ [.float .f64 L[k]])) (hlt : g2 < w2.heap.size)
    (hC : C.toList.take (k + (L.length - (k + 1))) = fv (L.take k) ++ fv (L.drop (k + 1))) (hc1 : k + (L.length - (k + 1)) ≤ cap') (hc2 : cap' ≤ maxLen) :
    TInv l0 w (.slice (some ⟨w2.heap.size, 0, none⟩) (k + (L.length - (k + 1))) cap') (.slice (some ⟨g2, 0, none⟩) (O.length + 1) cap2) (w2.alloc (.cells C 22)).drew.drew := by
  have hel : (L.eraseIdx k).length = k + (L.length - (k + 1)) := by rw [List.length_eraseIdx, if_pos hk]; omega
  have hol : (O ++ [L[k]]).length = O.length + 1 := by simp
  rw [← fv_append, ← List.eraseIdx_eq_take_drop_succ] at hC
  refine ⟨L.eraseIdx k, O ++ [L[k]], hsel, (hbel.alloc hbel.size _).drew.drew, ?_, .inr ⟨by omega, w2.heap.size, cap', by rw [hel], by omega, hc2, ⟨hbel.size, ?_, ?_⟩, ?_⟩⟩
  · rw [hol, fv_append]; exact (hown.alloc _).drew.drew
  · show w2.heap.size < (w2.alloc (.cells C 22)).heap.size
    simp
  · intro i hi
    have hb : (w2.alloc (.cells C 22)).heap[w2.heap.size]? = some (.cells C 22 (0, 0)) := by show (w2.heap.push _)[w2.heap.size]? = _; rw [Array.getElem?_push_size]
    show (w2.alloc (.cells C 22)).cell? ⟨w2.heap.size, i, none⟩ = _
    rw [cell_of_row _ _ i C 22 (0, 0) hb, ← fv_get hi, ← hC, List.getElem?_take_of_lt (by omega)]
    simp
  · intro h
    simp [Value.ownBlock] at h
    omega

theorem tinv_last {l0 L O : List Nat} {k g g2 cap2 : Nat} {w w2 w3 : World} (hk : k + 1 = L.length) (hsel : Sel l0 (O ++ [L[k]]) (L.eraseIdx k)) (hbel : Below w.heap.size w w2) (hcap : L.length ≤ maxLen)
    (hown : w2.ownsRow w.heap.size 22 1 (.slice (some ⟨g2, 0, none⟩) (O.length + 1) cap2) (O.length + 1) (fv O ++ [.float .f64 L[k]])) (hrow : LRow w2 w.heap.size g L) (hne : g2 ≠ g) (hw : ∃ m, w3 = w2.drewN m) :
    TInv l0 w (.slice (some ⟨g, 0, none⟩) k k) (.slice (some ⟨g2, 0, none⟩) (O.length + 1) cap2) w3 := by
  obtain ⟨m, rfl⟩ := hw
  have hel : (L.eraseIdx k).length = k := by rw [List.length_eraseIdx, if_pos (by omega)]; omega
  have hol : (O ++ [L[k]]).length = O.length + 1 := by simp
  refine ⟨L.eraseIdx k, O ++ [L[k]], hsel, below_drewN hbel m, ?_, ?_⟩
  · rw [hol, fv_append]; exact hown
  · by_cases h0 : k = 0
    · exact .inl ⟨List.length_eq_zero_iff.1 (by rw [hel, h0]), _, _, by rw [h0]⟩
    · refine .inr ⟨by omega, g, k, by rw [hel], by omega, by omega, ⟨hrow.1, hrow.2.1, fun i hi => ?_⟩, ?_⟩
      · have := hrow.2.2 i (by omega)
        show w2.cell? _ = _
        rw [this, List.getElem_eraseIdx_of_lt _ (by omega)]
      · intro h
        simp [Value.ownBlock] at h
        exact hne h

set_option maxHeartbeats 4000000 in
set_option maxRecDepth 10000 in
/-- from the loop's head on -/
theorem tsort_some (l0 : List Nat) (hb : ∀ a ∈ l0, a < 18446744073709551616) (hlen : l0.length ≤ 17592186043904) (x : Addr) (c : Nat) (w : World)
    (hc : ∀ k, (h : k < l0.length) → w.cell? (x.add k) = some (.float .f64 l0[k])) :
    Calls Try.prog 11 #[.slice (some x) l0.length c] w fun e w' => ∃ v O, e = .returned v ∧ O.Perm l0 ∧ Asc O ∧ w'.ownsRow w.heap.size 22 1 v O.length (fv O) ∧ Below w.heap.size w w' := by
  have HC := Lib.hid hc; clear hc
  have HB := Lib.hid hb; clear hb
  obtain ⟨i0, hi, hz0, hz1, hz2⟩ := info_parts infoFl
  have HI := Lib.hid hi; clear hi
  have HZ0 := Lib.hid hz0; clear hz0
  have HZ1 := Lib.hid hz1; clear hz1
  have HZ2 := Lib.hid hz2; clear hz2
  go_enter Try.func11, Try.ntmps11
  go_wp2_with (at_builtin; refine wpList_append_own _ rfl _ _ 23 rfl w.heap.size 22 i0 (.float .f64 0) 1 8 Try.underlying23 HI.out HZ0.out HZ1.out HZ2.out rfl (by omega) _ _ _ rfl (World.ownsRow_nil w w.heap.size _ _) x l0.length c (fv l0) rfl ?c1 ?c2 ?c3 ?c4 ?c5 ?c6 ?_)
  case c1 => rw [fv_length]; omega
  case c2 =>
    intro j u hj
    have hlt : j < l0.length := by
      rcases Nat.lt_or_ge j l0.length with h | h
      · exact h
      · rw [List.getElem?_eq_none (by rw [fv_length]; exact h)] at hj; cases hj
    rw [fv_get hlt] at hj
    cases hj
    exact HC.out j hlt
  case c3 => exact fv_one _
  case c4 => unfold maxLen; omega
  case c5 => omega
  case c6 => exact Nat.le_refl _
  intro vl w1 hown hgrow _
  have hinv : TInv l0 w vl (.slice none 0 0) w1 := by
    refine ⟨l0, [], sel_start l0, (Below.refl _ w).grown hgrow (Nat.le_refl _) (by intro k hk; cases hk), World.ownsRow_nil _ _ _ _, ?_⟩
    rcases hown.2 with ⟨hv, h0⟩ | ⟨g, cap, cur, hv, hbase, hg, hle, hmx, _⟩
    · exact .inl ⟨List.length_eq_zero_iff.1 h0, none, 0, hv⟩
    · by_cases h0 : l0.length = 0
      · exact .inl ⟨List.length_eq_zero_iff.1 h0, _, _, by rw [hv, h0]⟩
      · refine .inr ⟨by omega, g, cap, hv, hle, hmx, ⟨hbase, ?_, fun i hi => ?_⟩, by intro h; cases h⟩
        · exact (hown.lt g (by rw [hv]; rfl)).2
        · rw [hv] at hown
          rw [hown.cellAt i (by omega), fv_get hi]
  have HV := Lib.hid hinv; clear hinv hown hgrow
  go_wp2_with fail
  go_loopw [3, 4] (fun left out wr => TInv l0 w left out wr) (fun left _ _ => lenV left)
  case atStart => exact HV.out
  case round =>
    obtain ⟨L, O, hsel, hbel, hown, hleft⟩ := hrel
    have HS := Lib.hid hsel; clear hsel
    have HBel := Lib.hid hbel; clear hbel
    have HO := Lib.hid hown; clear hown
    rcases hleft with ⟨rfl, a, c', rfl⟩ | ⟨hpos, g, cap, rfl, hcap, hmax, hrow, hne⟩
    · go_wp2
      go_ret
      exact ⟨_, O, rfl, (sel_end HS.out).1, (sel_end HS.out).2, HO.out, HBel.out⟩
    · have HR := Lib.hid hrow; clear hrow
      have HN := Lib.hid hne; clear hne
      have hLb : L.length ≤ 17592186043904 := by have := sel_length HS.out; omega
      go_wp2_with fail
      go_loopw [5, 15] (fun s5 s15 wr' => ∃ i k : Nat, i ≤ L.length ∧ s5 = .int .i64 k ∧ s15 = .int .i64 i ∧ k < L.length ∧ MinAt L i k ∧ wr' = wr) (fun _ s15 _ => L.length - (intOf s15).toNat)
      case atStart => exact ⟨0, 0, by omega, rfl, rfl, hpos, ⟨hpos, fun j hj => absurd hj (Nat.not_lt_zero _)⟩, rfl⟩
      case round =>
        obtain ⟨i, k, hi, rfl, rfl, hk, hmin, rfl⟩ := hrel
        have HM := Lib.hid hmin; clear hmin
        by_cases hlt : i < L.length
        · have c1 := HR.out.2.2 i hlt
          have c2 := HR.out.2.2 k hk
          have B1 : Hid (L[i] < 18446744073709551616) := sel_bound HS.out HB.out _ (List.getElem_mem hlt)
          have B2 : Hid (L[k] < 18446744073709551616) := sel_bound HS.out HB.out _ (List.getElem_mem hk)
          go_wp2_with fail
          refine (timeOrder_any _ _ B1.out B2.out _).mono ?_
          rintro e w' ⟨rfl, rfl⟩
          by_cases ho : ord L[i] L[k] < 0
          · have HO' : Hid (rank L[i] < rank L[k]) := ord_neg.1 ho
            go_wp2
            go_roundw
            case rel =>
              refine ⟨i + 1, i, by omega, rfl, by go_num, hlt, ⟨hlt, fun j hj hj' => ?_⟩, trivial⟩
              rcases Nat.lt_succ_iff_lt_or_eq.1 hj with h | h
              · exact Nat.le_trans (Nat.le_of_lt HO'.out) (HM.out.2 j h hj')
              · subst h; exact Nat.le_refl _
            case measure => simp [intOf]; omega
          · have HO' : Hid (¬ rank L[i] < rank L[k]) := fun h => ho (ord_neg.2 h)
            go_wp2
            go_roundw
            case rel =>
              refine ⟨i + 1, k, by omega, rfl, by go_num, hk, ⟨hk, fun j hj hj' => ?_⟩, trivial⟩
              rcases Nat.lt_succ_iff_lt_or_eq.1 hj with h | h
              · exact HM.out.2 j h hj'
              · subst h; exact Nat.le_of_not_lt HO'.out
            case measure => simp [intOf]; omega
        · obtain rfl : i = L.length := by omega
          have c2 := HR.out.2.2 k hk
          have HL : Hid (O.length + L.length ≤ 17592186043904) := by have := sel_length HS.out; show _ ≤ _; omega
          have HSt := Lib.hid (sel_step HS.out hk (fun j hj => HM.out.2 j hj hj))
          clear hi
          go_wp2_with (at_builtin; refine wpList_append_lies _ rfl _ _ 23 rfl w.heap.size 22 i0 (.float .f64 0) 1 8 Try.underlying23 HI.out HZ0.out HZ1.out HZ2.out rfl (by omega) _ _ _ rfl (HO.out.alloc _) ⟨wr.heap.size, 0, none⟩ 1 1 [.float .f64 L[k]] rfl ?d1 ?d2 ?d3 ?d7 ?d4 ?d5 ?d6 _ rfl ?_)
          case d1 => rfl
          case d2 => exact cell_one_new _ _ _
          case d3 => intro u hu; simp at hu; subst hu; rfl
          case d4 => have := HL.out; unfold maxLen; omega
          case d5 => have := HL.out; omega
          case d6 => have := HBel.out.size; simp; omega
          case d7 => omega
          intro g2 cap2 w2 hown2 hgrow2 hat hlt2
          have HB2 : Hid (Below w.heap.size w w2) := (HBel.out.alloc HBel.out.size _).grown hgrow2 (by have := HBel.out.size; simp; omega) (fun k hk => (HO.out.lt k hk).1)
          have HG2 := Lib.hid hgrow2; clear hgrow2
          have HO2 := Lib.hid hown2; clear hown2
          have HAt := Lib.hid hat; clear hat
          have HR2 : Hid (LRow w2 w.heap.size g L) := (LRow.kept HR.out (World.grownBy_alloc _ _ none) (by intro h; cases h)).kept HG2.out HN.out
          have hwr : IntKind.i64.wrap ((k : Int) + 1) = (k : Int) + 1 := by rw [IntKind.wrap_i64]; omega
          have hp0 : (0 : Int) ≤ (k : Int) + 1 := by omega
          have hp1 : (k : Int) + 1 ≤ (L.length : Int) := by omega
          have hp2 : ((k : Int) + 1).toNat = k + 1 := by omega
          have hic : k ≤ cap := by omega
          clear c2
          go_wp2_with fail
          by_cases hm : k + 1 < L.length
          · have hA : (if cap = k + 1 then some (⟨g, 0, none⟩ : Addr) else some ⟨g, k + 1, none⟩) = some ⟨g, k + 1, none⟩ := by rw [if_neg (by omega)]
            have s1 : Hid ((fv (L.take k)).length = k) := by show _ = _; rw [fv_length, List.length_take]; omega
            have s3 : Hid ((fv (L.drop (k + 1))).length = L.length - (k + 1)) := by show _ = _; rw [fv_length, List.length_drop]
            have s2 : Hid (∀ j u, (fv (L.take k))[j]? = some u → w2.drew.cell? ((⟨g, 0, none⟩ : Addr).add j) = some u) := fun j u hu => by
              have hj : j < k := by
                rcases Nat.lt_or_ge j k with h | h
                · exact h
                · rw [List.getElem?_eq_none (by rw [s1.out]; exact h)] at hu; cases hu
              rw [fv_get (by rw [List.length_take]; omega), List.getElem_take] at hu
              cases hu
              rw [addr0]; exact HR2.out.2.2 j (by omega)
            have s4 : Hid (∀ j u, (fv (L.drop (k + 1)))[j]? = some u → w2.drew.cell? ((⟨g, k + 1, none⟩ : Addr).add j) = some u) := fun j u hu => by
              have hj : j < L.length - (k + 1) := by
                rcases Nat.lt_or_ge j (L.length - (k + 1)) with h | h
                · exact h
                · rw [List.getElem?_eq_none (by rw [s3.out]; exact h)] at hu; cases hu
              rw [fv_get (by rw [List.length_drop]; omega), List.getElem_drop] at hu
              cases hu
              rw [addrK]; exact HR2.out.2.2 (k + 1 + j) (by omega)
            go_region_law (refine step_append_new rfl (.tmp 39) (.tmp 43) 23 rfl 22 i0 (.float .f64 0) Try.underlying23 HI.out HZ0.out HZ1.out HZ2.out ⟨g, 0, none⟩ k k (fv (L.take k)) (by simp [Act.eval, Act.put]) s1.out s2.out ⟨g, k + 1, none⟩ (L.length - (k + 1)) (cap - (k + 1)) (fv (L.drop (k + 1))) (by simp [Act.eval, Act.put]) s3.out s4.out (fv_one _) (by omega) (by omega) ?_)
            generalize hC : rowCells _ _ _ _ _ _ _ _ = C
            generalize hcp : grownCap _ _ _ _ = cap'
            have HCC : Hid (C.toList.take (k + (L.length - (k + 1))) = fv (L.take k) ++ fv (L.drop (k + 1))) := by rw [← hC]; exact rowCells_take _ _ _ _ _ _ _ _ s1.out s3.out
            have HC1 : Hid (k + (L.length - (k + 1)) ≤ cap') := by rw [← hcp]; exact grownCap_ge _ _ _ _
            have HC2 : Hid (cap' ≤ maxLen) := by rw [← hcp]; exact grownCap_le_maxLen _ _ _ _ (by unfold maxLen; omega)
            clear hC hcp
            simp only [Act.put, List.getElem_toArray, List.getElem_cons_succ, List.getElem_cons_zero, List.setIfInBounds_toArray, List.set_cons_succ, List.set_cons_zero]
            go_wp2
            go_roundw
            case rel => exact tinv_new hk hm HSt.out HB2.out HO2.out hlt2 HCC.out HC1.out HC2.out
            case measure => show k + (L.length - (k + 1)) < L.length; omega
          · obtain ⟨A, hA⟩ : ∃ A, (if cap = k + 1 then some (⟨g, 0, none⟩ : Addr) else some ⟨g, k + 1, none⟩) = some A := by split; exact ⟨_, rfl⟩; exact ⟨_, rfl⟩
            have hz : L.length - (k + 1) = 0 := by omega
            go_region_law (refine step_append_room rfl (.tmp 39) (.tmp 43) 23 rfl 22 i0 1 Try.underlying23 HI.out HZ1.out g 0 k k (by simp [Act.eval, Act.put]) A 0 (cap - (k + 1)) [] (by simp [Act.eval, Act.put]) rfl (fun j u hu => by cases hu) (fun u hu => by cases hu) (Nat.le_refl _) (fun j hj => absurd hj (Nat.not_lt_zero _)) ?_)
            simp only [Act.put, List.getElem_toArray, List.getElem_cons_succ, List.getElem_cons_zero, List.setIfInBounds_toArray, List.set_cons_succ, List.set_cons_zero]
            go_wp2
            go_roundw
            case rel =>
              refine tinv_last (by omega) HSt.out HB2.out (by unfold maxLen; omega) HO2.out HR2.out (fun e => ?_) ⟨1, rfl⟩
              rcases HAt.out with h | h
              · exact HN.out (by rw [h, e])
              · have := HR.out.2.1; omega
            case measure => show k < L.length; omega

/-- at nil -/
theorem tsort_nil (c : Nat) (w : World) : Calls Try.prog 11 #[.slice none 0 c] w fun e w' => e = .returned (.slice none 0 0) ∧ w = w' := by
  go_enter Try.func11, Try.ntmps11
  go_wp2_with fail
  go_rounds 1
  go_ret
  exact ⟨rfl, rfl⟩
end Go.Proofs.Ytejceacoopgjkaa
