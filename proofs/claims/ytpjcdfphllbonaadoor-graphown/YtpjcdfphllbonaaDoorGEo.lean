/-
  Package graph's edgesOf and renumbered. Condition: the table of math/bits lies in memory as its text lays it (the card ties this).
-/
import Derived.Test.YtpjcdfphllbonaaDoorGTl
import Derived.Test.YtpjcdfphllbonaaDoorList
namespace Go.Proofs.YtpjcdfphllbonaaDoor
set_option maxRecDepth 100000
set_option linter.unusedVariables false
open Go.ChangeShapes Go.WideShapes Go.ChangeAt Go.RowKit

/-- a slice that holds the sets r -/
def WIn (w : World) (v : Value) (r : List Bv) : Prop :=
  ∃ a cap, v = .slice a r.length cap ∧ ∀ k, k < r.length → ∃ b off, a = some ⟨b, off, none⟩ ∧ w.cell? ⟨b, off + k, none⟩ = some (.int .u64 ((wAt r k).toNat : Int))
theorem WIn.later {w w' : World} {v : Value} {r : List Bv} (h : WIn w v r) (hb : Below w.heap.size w w') : WIn w' v r := by
  obtain ⟨a, cap, h1, h2⟩ := h
  refine ⟨a, cap, h1, fun k hk => ?_⟩
  obtain ⟨b, off, e, c⟩ := h2 k hk
  exact ⟨b, off, e, cell_later hb c⟩
theorem WO.win {B : Nat} {v : Value} {r : List Bv} {w : World} (h : WO B v r w) : WIn w v r := by
  rcases h.2 with ⟨hv, h0⟩ | ⟨g, cap, cur, hv, _⟩
  · exact ⟨none, 0, by rw [hv, h0], fun k hk => by omega⟩
  · refine ⟨_, cap, hv, fun k hk => ⟨g, 0, rfl, ?_⟩⟩
    subst hv
    rw [Nat.zero_add]
    exact WO.cell h hk
/-- a list of numbers in a block of its own -/
theorem list_blk {s : Bv} {w w' : World} {e : Ending} (h : ListPost s w e w') : e = .returned (.slice (some ⟨w.heap.size, 0, none⟩) (cnt s) (cnt s)) ∧ Below w.heap.size w w' ∧
    ∃ cur, Blk w.heap.size cur 3 w' ∧ ∀ (j n : Nat), (nums s)[j]? = some n → cur[j]? = some (.int .i64 (n : Int)) := by
  obtain ⟨h1, h2, h3⟩ := h
  refine ⟨h1, h3, ?_⟩
  rcases h2.2 with ⟨hv, _⟩ | ⟨g, cap, cur, hv, _, hg, _, _, _, ht⟩
  · simp at hv
  · simp only [Value.slice.injEq, Option.some.injEq, Addr.mk.injEq, and_true, true_and] at hv
    obtain ⟨rfl, _⟩ := hv
    refine ⟨cur, hg, fun j n hj => ?_⟩
    have e1 := ints_get _ _ _ hj
    rw [← ht, List.getElem?_take] at e1
    split at e1
    · simpa using e1
    · cases e1
theorem own_later {w w' : World} {B : Nat} {e : TypeId} {s : Nat} {v : Value} {n : Nat} {xs : List Value} (h : w.ownsRow B e s v n xs) (hb : Below w.heap.size w w') : w'.ownsRow B e s v n xs := by
  refine ⟨h.1, ?_⟩
  rcases h.2 with k | ⟨g, cap, cur, h1, h2, h3, r⟩
  · exact .inl k
  · have hl : g < w.heap.size := by
      rcases Nat.lt_or_ge g w.heap.size with h' | h'
      · exact h'
      · simp [Array.getElem?_eq_none h'] at h3
    exact .inr ⟨g, cap, cur, h1, h2, (hb.block g hl).trans h3, r⟩
/-- another row's append leaves a block of another type -/
theorem blk_app {q : Nat} {ys : Array Value} {t e : TypeId} {w w' : World} {B s n : Nat} {u : Value} {xs : List Value} (h : Blk q ys t w) (o : w.ownsRow B e s u n xs) (hne : t ≠ e) (g : w.grownBy w' u.ownBlock) : Blk q ys t w' := by
  refine h.at (g.block q h.lt fun hq => hne ?_)
  rcases o.2 with ⟨rfl, _⟩ | ⟨g', cap, cur, rfl, _, hg, _⟩
  · cases hq
  · have e1 : q = g' := Option.some.inj hq
    subst e1
    unfold Blk at h
    rw [h] at hg
    injection hg with hg
    injection hg
theorem edgesAt_take {i : Nat} {s : Bv} {j n : Nat} (h : (nums s)[j]? = some n) : (edgesAt i s).take (j + 1) = (edgesAt i s).take j ++ [((i : Int), (n : Int))] := by
  unfold edgesAt
  rw [List.take_add_one, List.getElem?_map, h]; rfl
theorem edgesAt_length (i : Nat) (s : Bv) : (edgesAt i s).length = cnt s := by unfold edgesAt; rw [List.length_map, nums_length]
theorem eo_len {r : List Bv} {k j : Nat} (hk : k ≤ 64) (s : Bv) : (edgesTo r k ++ (edgesAt k s).take j).length ≤ 1048576 := by
  rw [List.length_append, List.length_take, edgesAt_length]
  have := edgesTo_le r k
  have := cnt_le s
  omega
set_option maxHeartbeats 8000000 in
theorem edgesOf_any {w : World} {v : Value} {r : List Bv} (h : WIn w v r) (hl : r.length ≤ 64) (ht : Tab w) :
    Calls Tryd.prog 34 #[v] w fun e w' => ∃ a n c, e = .returned (.slice a n c) ∧ EO w.heap.size (.slice a n c) (edgesL r) w' ∧ TlE (.slice a n c) w' ∧ Below w.heap.size w w' := by
  have LA := Lib.hid (fun s W (hW : Below w.heap.size w W) => (list_any s W (ht.below hW ht.1)).mono (fun _ _ => list_blk))
  obtain ⟨a, cap, rfl, hc⟩ := h
  have HC : Hid (∀ W, Below w.heap.size w W → ∀ k, k < r.length → ∃ b off, a = some ⟨b, off, none⟩ ∧ W.cell? ⟨b, off + k, none⟩ = some (.int .u64 ((wAt r k).toNat : Int))) := fun W hW k hk => by
    obtain ⟨b, off, e, c⟩ := hc k hk
    exact ⟨b, off, e, cell_later hW c⟩
  have ES : Hid (∀ k, edgesTo r (k + 1) = edgesTo r k ++ edgesAt k (wAt r k)) := fun k => edgesTo_succ r k
  have E0 : Hid (edgesTo r 0 = []) := Lib.hid (edgesTo_zero r)
  have EL : Hid (edgesTo r r.length = edgesL r) := Lib.hid rfl
  have LE : Hid (∀ k j s, k ≤ 64 → (edgesTo r k ++ (edgesAt k s).take j).length ≤ 1048576) := fun k j s hk => eo_len hk s
  clear hc ht
  generalize edgesL r = ER at *
  generalize hw : wAt r = f at *
  generalize edgesTo r = F at *
  generalize r.length = L at *
  clear hw
  go_enter Tryd.func34, Tryd.ntmps34
  go_wp2_with fail
  go_loopw [3, 10] (fun u i wr => ∃ (k : Nat) (ua : Option Addr) (un uc : Nat), k ≤ L ∧ i = .int .i64 (k : Int) ∧ u = .slice ua un uc ∧ EO w.heap.size u (F k) wr ∧ TlE u wr ∧ Below w.heap.size w wr) (fun _ i _ => L - (intOf i).toNat)
  case atStart => exact ⟨0, none, 0, 0, Nat.zero_le _, rfl, rfl, by rw [E0.out]; exact World.ownsRow_nil _ _ _ _, TlE.nil _ _ _, Below.refl _ _⟩
  case round =>
    obtain ⟨k, ua, un, uc, hk, rfl, rfl, qo, qt, qb⟩ := hrel
    have QO := Lib.hid qo; have QT := Lib.hid qt; have QB := Lib.hid qb; clear qo qt qb
    by_cases hkl : k < L
    · obtain ⟨b, off, rfl, c0⟩ := HC.out wr QB.out k hkl
      have S1 := Lib.hid (ES.out k)
      have LE1 := Lib.hid (fun j => LE.out k j (f k) (by omega))
      generalize f k = s at *
      go_wp2_with fail
      refine (LA.out s _ QB.out).mono ?_
      rintro e w2 ⟨rfl, b2, cur, k2, hcur⟩
      have B2 := Lib.hid (QB.out.trans (b2.mono QB.out.size))
      have K2 := Lib.hid k2
      have HR := Lib.hid hcur
      have O2 := Lib.hid (own_later QO.out b2)
      have T2 := Lib.hid (QT.out.later b2)
      have HQ : Hid (w.heap.size ≤ wr.heap.size) := QB.out.size
      generalize wr.heap.size = q at *
      have hcn := cnt_le s
      have NG := Lib.hid (fun j hj => nums_get s j hj)
      have AT := Lib.hid (fun (j n : Nat) (h : (nums s)[j]? = some n) => edgesAt_take (i := k) h)
      have AF : Hid ((edgesAt k s).take (cnt s) = edgesAt k s) := Lib.hid (List.take_of_length_le (by rw [edgesAt_length]; exact Nat.le_refl _))
      clear b2 k2 hcur c0
      generalize edgesAt k s = A at *
      generalize nums s = ns at *
      generalize cnt s = C at *
      go_wp2_with fail
      go_loopw [3, 18] (fun u i wq => ∃ (j : Nat) (ua : Option Addr) (un uc : Nat), j ≤ C ∧ i = .int .i64 (j : Int) ∧ u = .slice ua un uc ∧ EO w.heap.size u (F k ++ A.take j) wq ∧ TlE u wq ∧ Blk q cur 3 wq ∧ Below w.heap.size w wq) (fun _ i _ => C - (intOf i).toNat)
      case atStart => exact ⟨0, _, _, _, Nat.zero_le _, rfl, rfl, by rw [List.take_zero, List.append_nil]; exact O2.out, T2.out, K2.out, B2.out⟩
      case round =>
        obtain ⟨j, va, vn, vc, hj, rfl, rfl, po, pt, pk, pb⟩ := hrel
        have PO := Lib.hid po; have PT := Lib.hid pt; have PB := Lib.hid pb; have PK := Lib.hid pk; clear po pt pb pk
        rename World => W4
        by_cases hjl : j < C
        · obtain ⟨n, n1, _, _, n4⟩ := NG.out j hjl
          have cj := PK.out.cell (HR.out j n n4)
          have A1 := Lib.hid (AT.out j n n4)
          have WA : Hid (Below w.heap.size w (W4.alloc (.cells #[.int .i64 (k : Int), .int .i64 (n : Int)] 49))) := PB.out.alloc PB.out.size _
          have OA : EO w.heap.size (.slice va vn vc) (F k ++ A.take j) (W4.alloc (.cells #[.int .i64 (k : Int), .int .i64 (n : Int)] 49)) := World.ownsRow.alloc PO.out _
          have b0 := blk_new W4 #[.int .i64 (k : Int), .int .i64 (n : Int)] 49
          obtain ⟨a5, n5, c5, w5, r5, o5, g5, t5⟩ := app_ed (x := ((k : Int), (n : Int))) OA (PT.out.alloc _) (b0.cell rfl) (b0.cell rfl) (LE1.out j) WA.out.size
          have K5 := Lib.hid (blk_app (PK.out.alloc _) OA (by decide) g5)
          have B5 := Lib.hid (WA.out.grown g5 WA.out.size (fun q hq => (OA.lt q hq).1))
          have R5 := Lib.hid r5; have O5 := Lib.hid o5; have T5 := Lib.hid t5
          clear OA b0 r5 o5 g5 t5
          go_wp2_with (at_builtin; go_must (refine Lib.wpList_append_run _ rfl (.tmp 22) (.tmp 26) 23 23 rfl _ _ rfl rfl _ _ R5.out ?_))
          go_roundw
          case rel => exact ⟨j + 1, _, _, _, by omega, by go_num, rfl, by rw [A1.out, ← List.append_assoc]; exact O5.out, T5.out, K5.out, B5.out⟩
          case measure => simp [intOf]; omega
        · obtain rfl : j = C := by omega
          go_wp2
          go_roundw
          case rel => exact ⟨k + 1, _, _, _, by omega, by go_num, rfl, by rw [S1.out, ← AF.out]; exact PO.out, PT.out, PB.out⟩
          case measure => simp [intOf]; omega
    · obtain rfl : k = L := by omega
      go_wp2
      go_ret
      exact ⟨_, _, _, rfl, by rw [← EL.out]; exact QO.out, QT.out, QB.out⟩

/-! renumbered -/
theorem renum_next {s t : Bv} {j n : Nat} (h : (nums (t &&& s))[j]? = some n) : orAll s 0#64 ((nums (t &&& s)).take (j + 1)) = orAll s 0#64 ((nums (t &&& s)).take j) ||| one (cntTo s.getLsbD n) := by
  rw [List.take_add_one, h]
  exact orAll_snoc _ _ _ _
set_option maxHeartbeats 4000000 in
theorem renum_any (t s : Bv) (w : World) (ht : Tab w) :
    Calls Tryd.prog 36 #[.int .u64 (t.toNat : Int), .int .u64 (s.toNat : Int)] w fun e w' => e = .returned (.int .u64 ((renum t s).toNat : Int)) ∧ Below w.heap.size w w' := by
  have LA := Lib.hid ((list_any (t &&& s) w ht).mono (fun _ _ => list_blk))
  have hcn := cnt_le (t &&& s)
  have NG := Lib.hid (fun j hj => nums_get (t &&& s) j hj)
  have NX := Lib.hid (fun (j n : Nat) (h : (nums (t &&& s))[j]? = some n) => renum_next h)
  have NL : Hid (orAll s 0#64 ((nums (t &&& s)).take (cnt (t &&& s))) = renum t s) := Lib.hid (by rw [List.take_of_length_le (by rw [nums_length]; exact Nat.le_refl _)]; rfl)
  have N0 : Hid (orAll s 0#64 ((nums (t &&& s)).take 0) = 0#64) := Lib.hid rfl
  have e1 := bv_and t s
  have RK := Lib.hid (fun n : Nat => rank_any s (n : Int))
  have CL : Hid (∀ n : Nat, n < 64 → clamp (n : Int) = n) := fun n hn => clamp_nat n (by omega)
  have RL : Hid (∀ n, n < 64 → cntTo s.getLsbD n < 64 ∨ s.getLsbD n = false) := fun n hn => by
    cases hs : s.getLsbD n
    · exact .inr rfl
    · left; have := rank_lt hs; have := cnt_le s; omega
  have SB : Hid (∀ n, (t &&& s).getLsbD n = true → s.getLsbD n = true) := fun n hn => by
    rw [BitVec.getLsbD_and, Bool.and_eq_true] at hn; exact hn.2
  clear ht
  generalize t &&& s = x at *
  generalize renum t s = R at *
  generalize (nums x) = ns at *
  generalize cnt x = C at *
  go_enter Tryd.func36, Tryd.ntmps36
  go_wp2_with fail
  refine LA.out.mono ?_
  rintro e w2 ⟨rfl, b2, cur, k2, hcur⟩
  have B2 := Lib.hid b2
  have K2 := Lib.hid k2
  have HR := Lib.hid hcur
  clear b2 k2 hcur e1
  go_wp2_with fail
  go_loopw [5, 13] (fun u i wr => ∃ j : Nat, j ≤ C ∧ i = .int .i64 (j : Int) ∧ u = .int .u64 ((orAll s 0#64 (ns.take j)).toNat : Int) ∧ wr = w2) (fun _ i _ => C - (intOf i).toNat)
  case atStart => exact ⟨0, Nat.zero_le _, rfl, by rw [N0.out]; rfl, rfl⟩
  case round =>
    obtain ⟨j, hj, rfl, rfl, rfl⟩ := hrel
    by_cases hjl : j < C
    · obtain ⟨n, n1, n2, _, n4⟩ := NG.out j hjl
      have cj := K2.out.cell (HR.out j n n4)
      have X1 := Lib.hid (NX.out j n n4)
      have RK1 := Lib.hid (RK.out n)
      rw [CL.out n n1] at RK1
      have hr : cntTo s.getLsbD n < 64 := (RL.out n n1).resolve_right (by rw [SB.out n n2]; simp)
      have e2 : bits .or .u64 ((orAll s 0#64 (ns.take j)).toNat : Int) (IntKind.u64.wrap (2 ^ cntTo s.getLsbD n)) = ((orAll s 0#64 (ns.take (j + 1))).toNat : Int) := by rw [one_walk _ hr, bv_or, ← X1.out]
      have hr' : ((cntTo s.getLsbD n : Nat) : Int) < 64 := by omega
      clear X1 n1 n2 n4 hr
      generalize cntTo s.getLsbD n = m at *
      generalize (orAll s 0#64 (ns.take j)).toNat = y at *
      generalize hz : (orAll s 0#64 (ns.take (j + 1))).toNat = z at *
      have HZ := Lib.hid hz; clear hz
      go_wp2_with fail
      refine (RK1.out _).mono ?_
      rintro e w' ⟨rfl, rfl⟩
      go_wp2
      go_roundw
      case rel => exact ⟨j + 1, by omega, by go_num, by rw [HZ.out], trivial⟩
      case measure => simp [intOf]; omega
    · obtain rfl : j = C := by omega
      rw [NL.out]
      go_wp2
      go_ret
      exact ⟨rfl, B2.out⟩
end Go.Proofs.YtpjcdfphllbonaaDoor
