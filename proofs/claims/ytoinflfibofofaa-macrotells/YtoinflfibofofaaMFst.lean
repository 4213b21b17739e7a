/-
  Package macro's usedFirst. Condition: the macros' strings have at most 2^32 bytes.
-/
import Derived.Test.YtoinflfibofofaaMOrd
namespace Go.Proofs.Ytoinflfibofofaa
set_option linter.unusedVariables false
open Go.ChangeShapes Go.WideShapes Go.ChangeAt Go.RowKit

/-- a row of macros of the call's own -/
def MO (B : Nat) (v : Value) (o : List Mc) (w : World) : Prop := w.ownsRow B 25 2 v o.length (mcCells o)
theorem MO.snoc {B : Nat} {v : Value} {o : List Mc} {x y : Str} {w : World} (h : w.ownsRow B 25 2 v (o.length + 1) (mcCells o ++ [.string (bs x), .string (bs y)])) : MO B v (o ++ [(x, y)]) w := by
  unfold MO; rw [List.length_append, mcCells_snoc]; exact h
theorem MO.later {B : Nat} {v : Value} {o : List Mc} {w w' : World} (h : MO B v o w) (hb : Below w.heap.size w w') : MO B v o w' := by
  refine World.ownsRow.kept (row := none) h ⟨hb.os, hb.tape, hb.output, hb.size, fun k hk _ => hb.block k hk⟩ ?_
  cases e : v.ownBlock <;> simp
def lenOf : Value → Nat
  | .slice _ n _ => n
  | _ => 0
theorem MO.len {B : Nat} {v : Value} {o : List Mc} {w : World} (h : MO B v o w) : ∃ a c, v = .slice a o.length c := by
  rcases h.2 with ⟨h, h0⟩ | ⟨g, cap, cur, h, _⟩
  · exact ⟨_, _, by rw [h, h0]⟩
  · exact ⟨_, _, h⟩
theorem two_new (w : World) (x y : Value) (t : TypeId) : ∀ j u, [x, y][j]? = some u → (w.alloc (.cells #[x, y] t)).cell? ((⟨w.heap.size, 0, none⟩ : Addr).add j) = some u := by
  intro j u h
  rw [add_off]
  have hh : (w.alloc (.cells #[x, y] t)).heap[w.heap.size]? = some (.cells #[x, y] t) := heap_alloc_new _ _
  unfold World.cell?
  rw [hh]
  match j, h with
  | 0, h => simpa using h
  | 1, h => simpa using h

set_option maxHeartbeats 8000000 in
set_option maxRecDepth 100000 in
theorem first_any (z : List Mc) (v : Value) (w : World) (h : McIn w v z) (hx : ∀ m ∈ z, m.1.length ≤ maxLen ∧ m.2.length ≤ 4294967296) :
    Calls Try.prog 35 #[v] w (OPost z w) := by
  have hmm := @run_makeMap Try.prog
  by_cases hn : z.length ≤ 40
  · have BY := Lib.hid (by_any z v w h hn hx)
    have HN := Lib.hid hn
    have HM := Lib.hid h
    have HX := Lib.hid hx
    have t1 : decide (40 < (z.length : Int)) = false := decide_eq_false (by omega)
    obtain ⟨a, cap, rfl, _⟩ := h
    clear hn hx
    go_enter Try.func35, Try.ntmps35
    go_wp2_with fail
    refine BY.out.mono ?_
    rintro e w1 ⟨hb, (⟨h0, rfl, hu⟩ | ⟨h0, rfl⟩)⟩
    · have B1 := Lib.hid hb
      have H0 := Lib.hid h0
      have U1 := Lib.hid hu
      have ND := Lib.hid (formR_zero z [] h0).1
      have MZ := Lib.hid (HM.out.later hb)
      clear hb h0 BY hu HM
      rcases MZ.out.open with ⟨rfl, _, _, _⟩ | ⟨hp, b, off, cap', e1, hcap, hlt, hc⟩
      · clear MZ
        have AB : Hid (∀ o, Below w.heap.size w (w1.alloc o)) := fun o => B1.out.alloc B1.out.size o
        go_wp2_with fail
        go_rounds 1
        go_wp2_with fail
        go_rounds 1
        go_ret2
        refine ⟨AB.out _, .inr ⟨HN.out, .inr ⟨H0.out, .inr ⟨fun m hm => absurd hm List.not_mem_nil, .inr ⟨[], _, ⟨none, 0, rfl, Nat.le_refl _, Nat.zero_le _, Nat.zero_le _, .inl rfl⟩, (OI.start []).ord, fun m => Iff.rfl, rfl⟩⟩⟩⟩⟩
      · obtain ⟨rfl, rfl⟩ : a = some ⟨b, off, none⟩ ∧ cap = cap' := by simpa using e1
        have HC : Hid (∀ W, Below w1.heap.size w1 W → ∀ k, k < z.length → W.cell? ⟨b, off + k * 2, none⟩ = some (.string (bs (nm z k))) ∧ W.cell? ⟨b, off + k * 2 + 1, none⟩ = some (.string (bs (vl z k)))) := fun W hW k hk => ⟨cell_later hW (hc k _ (at_some hk)).1, cell_later hW (hc k _ (at_some hk)).2⟩
        have HL : Hid (∀ k, k < z.length → (nm z k).length ≤ maxLen) := fun k hk => (HX.out _ (mem_at hk)).1
        have HT : Hid (∀ k, k < z.length → z.take (k + 1) = z.take k ++ [(nm z k, vl z k)]) := fun k hk => take_at hk
        have HI : Hid (∀ k, k < z.length → (nm z k, vl z k) ∈ z) := fun k hk => mem_at hk
        obtain ⟨i0, hi, hz0, hz1, hz2⟩ := info_parts infoMc
        have IH := Lib.hid hi
        clear e1 hc hlt MZ HX hi
        generalize nm z = f at *
        generalize vl z = g at *
        go_wp2_with fail
        go_loopw [26] (fun i wr => ∃ k : Nat, k ≤ z.length ∧ i = .int .i64 (k : Int) ∧ (∀ m ∈ z.take k, ∀ x ∈ usesR m.2, x ∈ names z) ∧ Below w1.heap.size w1 wr) (fun i _ => z.length - (intOf i).toNat)
        case atStart => exact ⟨0, Nat.zero_le _, rfl, fun m hm => absurd hm (by simp), Below.refl _ _⟩
        case round =>
          obtain ⟨k, hk, rfl, q1, q2⟩ := hrel
          have Q1 := Lib.hid q1; have Q2 := Lib.hid q2; clear q1 q2
          by_cases hk2 : k < z.length
          · obtain ⟨c1, c2⟩ := HC.out wr Q2.out k hk2
            have T1 := Lib.hid (HT.out k hk2)
            have I1 := Lib.hid (HI.out k hk2)
            have X1 := Lib.hid (HL.out k hk2)
            generalize f k = x at *
            generalize g k = y at *
            have BA : Hid (∀ o, Below w1.heap.size w1 (wr.alloc o)) := fun o => Q2.out.alloc Q2.out.size o
            obtain ⟨fm, m1, m2, m3⟩ := U1.out.later (BA.out (.cells #[.string (bs x), .string (bs y)] 25))
            obtain ⟨v', e1, e2, e3⟩ := m3 _ I1.out
            have l1 := m1.look (t := 87) (e := 32) (z := .slice none 0 0) (x := x) Try.underlying87 (Try.zeroValue32 _) X1.out
            rw [show (fm x).getD (.slice none 0 0) = v' by rw [e1]; rfl] at l1
            have HA := Lib.hid (has_l (usesR y) v' w.heap.size z.length fm _ m1 e2 (fun s hs => by have := (good_len (e3 s hs)).2; unfold maxLen; omega))
            have M2 : Hid (∀ s, (fm s).isSome = (names z).contains s) := m2
            clear m1 m2 m3 e1 e2 e3
            cases ha : (usesR y).all fun s => (fm s).isSome
            · rw [ha] at HA
              have NO : Hid (∃ m ∈ z, ∃ s ∈ usesR m.2, s ∉ names z) := by
                have : ¬ ((usesR y).all fun s => (fm s).isSome) = true := by rw [ha]; decide
                rw [List.all_eq_true] at this
                simp only [Classical.not_forall] at this
                obtain ⟨s, hs, h2⟩ := this
                rw [M2.out s] at h2
                exact ⟨_, I1.out, s, hs, by simpa using h2⟩
              clear ha
              go_wp2_with fail
              refine HA.out.mono ?_
              rintro e w3 ⟨rfl, hb3⟩
              have B3 : Hid (Below w1.heap.size w1 w3) := (BA.out _).trans (hb3.mono (BA.out _).size)
              clear hb3
              go_wp2
              go_ret2
              exact ⟨B1.out.trans (B3.out.mono B1.out.size), .inr ⟨HN.out, .inr ⟨H0.out, .inl ⟨NO.out, rfl⟩⟩⟩⟩
            · rw [ha] at HA
              have YES : Hid (∀ s ∈ usesR y, s ∈ names z) := by
                intro s hs
                have := List.all_eq_true.1 ha s hs
                rw [M2.out s] at this
                simpa using this
              clear ha
              go_wp2_with fail
              refine HA.out.mono ?_
              rintro e w3 ⟨rfl, hb3⟩
              have B3 : Hid (Below w1.heap.size w1 w3) := (BA.out _).trans (hb3.mono (BA.out _).size)
              clear hb3
              go_wp2
              go_roundw
              case rel =>
                refine ⟨k + 1, by omega, by go_num, fun m hm => ?_, B3.out⟩
                rw [T1.out] at hm
                rcases List.mem_append.1 hm with hm | hm
                · exact Q1.out m hm
                · rw [List.mem_singleton.1 hm]; exact YES.out
              case measure => simp [intOf]; omega
          · obtain rfl : k = z.length := by omega
            have RF : Hid (Refs z) := by have := Q1.out; rw [List.take_length] at this; exact this
            have M0 := Lib.hid (MI.made wr)
            have UW := Lib.hid (U1.out.later Q2.out)
            have CW : Hid (∀ W, Below wr.heap.size wr W → ∀ k, k < z.length → W.cell? ⟨b, off + k * 2, none⟩ = some (.string (bs (f k))) ∧ W.cell? ⟨b, off + k * 2 + 1, none⟩ = some (.string (bs (g k)))) := fun W hW k hk => HC.out W (Q2.out.trans (hW.mono Q2.out.size)) k hk
            have BW : Hid (∀ W, Below wr.heap.size wr W → Below w.heap.size w W) := fun W hW => (B1.out.trans (Q2.out.mono B1.out.size)).trans (hW.mono (Nat.le_trans B1.out.size Q2.out.size))
            clear Q1 Q2 U1 HC B1 hk hk2
            rename World => W2
            go_wp2_with fail
            go_loopw [9] (fun o9 wq => ∃ o, OI z o ∧ MI W2.heap.size o.length (fS (names o)) wq ∧ MO (W2.heap.size + 1) o9 o wq ∧ Below W2.heap.size W2 wq) (fun o9 _ => z.length - lenOf o9)
            case atStart => exact ⟨[], OI.start z, M0.out.congr (fun s => rfl), World.ownsRow_nil _ _ _ _, (Below.refl _ _).alloc (Nat.le_refl _) _⟩
            case round =>
              obtain ⟨o, q1, q2, q3, q4⟩ := hrel
              obtain ⟨a9, c9, rfl⟩ := q3.len
              have Q1 := Lib.hid q1; have Q2 := Lib.hid q2; have Q3 := Lib.hid q3; have Q4 := Lib.hid q4; clear q1 q2 q3 q4
              by_cases hlo : o.length < z.length
              · have t3 : decide ((o.length : Int) < (z.length : Int)) = true := decide_eq_true (by omega)
                go_wp2_with fail
                go_loopw [48, 9] (fun i o9 wq => ∃ (k : Nat) (p : List Mc), k ≤ z.length ∧ i = .int .i64 (k : Int) ∧ OI z p ∧ MI W2.heap.size p.length (fS (names p)) wq ∧ MO (W2.heap.size + 1) o9 p wq ∧ Below W2.heap.size W2 wq ∧ ((p = o ∧ ∀ m ∈ z.take k, Block o m) ∨ o.length < p.length)) (fun i _ _ => z.length - (intOf i).toNat)
                case atStart => exact ⟨0, o, Nat.zero_le _, rfl, Q1.out, Q2.out, Q3.out, Q4.out, .inl ⟨rfl, fun m hm => absurd hm (by simp)⟩⟩
                case round =>
                  clear Q1 Q2 Q3 Q4
                  obtain ⟨k, p, hk, rfl, q1, q2, q3, q4, q5⟩ := hrel
                  obtain ⟨a8, c8, rfl⟩ := q3.len
                  have Q1 := Lib.hid q1; have Q2 := Lib.hid q2; have Q3 := Lib.hid q3; have Q4 := Lib.hid q4; have Q5 := Lib.hid q5; clear q1 q2 q3 q4 q5
                  rename World => W3
                  by_cases hk2 : k < z.length
                  · obtain ⟨c1, c2⟩ := CW.out W3 Q4.out k hk2
                    have T1 := Lib.hid (HT.out k hk2)
                    have I1 := Lib.hid (HI.out k hk2)
                    have X1 := Lib.hid (HL.out k hk2)
                    generalize f k = x at *
                    generalize g k = y at *
                    have ST := Lib.hid (stay_new W3 (.string (bs x)) (.string (bs y)))
                    have BA : Hid (Below W2.heap.size W2 (W3.alloc (.cells #[.string (bs x), .string (bs y)] 25))) := Q4.out.alloc Q4.out.size _
                    have MA : Hid (MI W2.heap.size p.length (fS (names p)) (W3.alloc (.cells #[.string (bs x), .string (bs y)] 25))) := Q2.out.alloc _
                    have OA : Hid (MO (W2.heap.size + 1) (.slice a8 p.length c8) p (W3.alloc (.cells #[.string (bs x), .string (bs y)] 25))) := World.ownsRow.alloc Q3.out _
                    have l0 := MA.out.look (t := 55) (e := 4) (z := .bool false) (x := x) Try.underlying55 (Try.zeroValue4 _) X1.out
                    cases hin : (names p).contains x
                    · rw [show (fS (names p) x).getD (.bool false) = .bool false by unfold fS; rw [hin]; rfl] at l0
                      have HIN := Lib.hid hin
                      obtain ⟨fm, m1, m2, m3⟩ := UW.out.later BA.out
                      obtain ⟨v', e1, e2, e3⟩ := m3 _ I1.out
                      have l1 := m1.look (t := 87) (e := 32) (z := .slice none 0 0) (x := x) Try.underlying87 (Try.zeroValue32 _) X1.out
                      rw [show (fm x).getD (.slice none 0 0) = v' by rw [e1]; rfl] at l1
                      have HA := Lib.hid (has_b (usesR y) v' W2.heap.size p.length (fS (names p)) _ MA.out e2 (fun s hs => by have := (good_len (e3 s hs)).2; unfold maxLen; omega))
                      have FS : Hid (∀ s, (fS (names p) s).isSome = (names p).contains s) := fun s => by unfold fS; cases (names p).contains s <;> rfl
                      clear m1 m2 m3 e1 e2 e3 hin
                      cases ha : (usesR y).all fun s => (fS (names p) s).isSome
                      · rw [ha] at HA
                        have NO : Hid (∃ s ∈ usesR y, s ∉ names p) := by
                          have : ¬ ((usesR y).all fun s => (fS (names p) s).isSome) = true := by rw [ha]; decide
                          rw [List.all_eq_true] at this
                          simp only [Classical.not_forall] at this
                          obtain ⟨s, hs, h2⟩ := this
                          rw [FS.out s] at h2
                          exact ⟨s, hs, by simpa using h2⟩
                        clear ha
                        go_wp2_with fail
                        refine HA.out.mono ?_
                        rintro e w3 ⟨rfl, hb3⟩
                        have B3 : Hid (Below W2.heap.size W2 w3) := BA.out.trans (hb3.mono BA.out.size)
                        have M3 := Lib.hid (MA.out.later hb3)
                        have O3 := Lib.hid (MO.later OA.out hb3)
                        clear hb3
                        go_wp2
                        go_roundw
                        case rel =>
                          refine ⟨k + 1, p, by omega, by go_num, Q1.out, M3.out, O3.out, B3.out, ?_⟩
                          rcases Q5.out with ⟨rfl, h5⟩ | h5
                          · refine .inl ⟨rfl, fun m hm => ?_⟩
                            rw [T1.out] at hm
                            rcases List.mem_append.1 hm with hm | hm
                            · exact h5 m hm
                            · rw [List.mem_singleton.1 hm]; exact .inr NO.out
                          · exact .inr h5
                        case measure => simp [intOf]; omega
                      · rw [ha] at HA
                        have YES : Hid (∀ s ∈ usesR y, s ∈ names p) := by
                          intro s hs
                          have := List.all_eq_true.1 ha s hs
                          rw [FS.out s] at this
                          simpa using this
                        clear ha
                        go_wp2_with fail
                        refine HA.out.mono ?_
                        rintro e w3 ⟨rfl, hb3⟩
                        have B3 : Hid (Below W2.heap.size W2 w3) := BA.out.trans (hb3.mono BA.out.size)
                        have O3 := Lib.hid (MO.later OA.out hb3)
                        have S3 := Lib.hid (ST.out.later hb3)
                        have M3 := Lib.hid (MA.out.later hb3)
                        have PL : Hid (p.length < 40) := by
                          have h1 := Q1.out.cnt
                          have h2 := cntU_snoc (m := (x, y)) HIN.out z ND.out I1.out
                          have h3 := HN.out
                          show _ < _
                          omega
                        obtain ⟨w4, r4, n4, g4, z4⟩ := M3.out.store (t := 55) (e := 4) (x := x) Try.underlying55 (by have := PL.out; unfold maxLen; omega) X1.out (.bool true)
                        obtain ⟨d1, d2⟩ := S3.out.cells
                        have LW : Hid (W2.heap.size < w4.heap.size) := by have := M3.out.lt; show _ < _; omega
                        have LV : Hid (∀ j, (Value.slice a8 p.length c8).ownBlock = some j → W2.heap.size + 1 ≤ j) := fun j hj => (O3.out.lt j hj).1
                        have O4 : Hid (MO (W2.heap.size + 1) (.slice a8 p.length c8) p w4) := World.ownsRow.kept O3.out g4 (by
                          cases e : (Value.slice a8 p.length c8).ownBlock with
                          | none => exact .inl rfl
                          | some j => right; intro hh; injection hh with hh; have := LV.out j e; omega)
                        have S4 : Hid (Stay W3.heap.size (.string (bs x)) (.string (bs y)) w4) := (g4.block _ (lt_of_block S3.out) (fun hh => by injection hh with hh; have := Q4.out.size; have := Q2.out.lt; omega)).trans S3.out
                        obtain ⟨f1, f2⟩ := S4.out.cells
                        have N4 := Lib.hid n4
                        have B4 : Hid (Below W2.heap.size W2 w4) := B3.out.grown g4 B3.out.size (fun j hj => by injection hj with hj; omega)
                        have OW : Hid (∀ o', (w4.alloc o').ownsRow (W2.heap.size + 1) 25 2 (.slice a8 p.length c8) p.length (mcCells p)) := fun o' => World.ownsRow.alloc O4.out o'
                        have SW : Hid (∀ o', W2.heap.size + 1 ≤ (w4.alloc o').heap.size) := fun o' => by
                          have : (w4.alloc o').heap.size = w4.heap.size + 1 := by simp
                          have := LW.out
                          omega
                        clear hb3 n4 g4 z4 S3 O3
                        have pl := PL.out
                        go_wp2_with (at_builtin; go_must (refine wpList_append_own _ rfl (.tmp 68) (.tmp 70) 22 rfl (W2.heap.size + 1) 25 i0 (.agg #[.string ByteArray.empty, .string ByteArray.empty]) 2 32 Try.underlying22 IH.out hz0 hz1 hz2 rfl (by decide) _ _ _ rfl (OW.out _) ⟨w4.heap.size, 0, none⟩ 1 1 [.string (bs x), .string (bs y)] rfl rfl (two_new _ _ _ _) (by intro u hu; simp at hu; rcases hu with rfl | rfl <;> rfl) (by unfold maxLen; omega) (by omega) (SW.out _) ?_; intro v5 w5 q1 q2 q3; have O5 := Lib.hid q1; have G5 := Lib.hid q2; clear q1 q2 q3))
                        go_roundw
                        case rel =>
                          refine ⟨k + 1, p ++ [(x, y)], by omega, by go_num, Q1.out.snoc ND.out I1.out HIN.out YES.out, ?_, MO.snoc O5.out, ?_, .inr ?_⟩
                          · rw [List.length_append, names_snoc]
                            refine MI.grown (MI.alloc (MI.congr N4.out (fS_upd (names p) x)) _) G5.out (fun hh => by have := LV.out _ hh.symm; omega)
                          · exact (B4.out.alloc (Nat.le_of_lt LW.out) _).grown G5.out (by have := SW.out (.cells #[.string (bs x), .string (bs y)] 25); omega) (fun j hj => by have := LV.out j hj; omega)
                          · rw [List.length_append, List.length_singleton]
                            rcases Q5.out with ⟨rfl, _⟩ | h5
                            · omega
                            · omega
                        case measure => simp [intOf]; omega
                    · rw [show (fS (names p) x).getD (.bool false) = .bool true by unfold fS; rw [hin]; rfl] at l0
                      have HIN := Lib.hid hin; clear hin
                      go_wp2
                      go_roundw
                      case rel =>
                        refine ⟨k + 1, p, by omega, by go_num, Q1.out, MA.out, OA.out, BA.out, ?_⟩
                        rcases Q5.out with ⟨rfl, h5⟩ | h5
                        · refine .inl ⟨rfl, fun m hm => ?_⟩
                          rw [T1.out] at hm
                          rcases List.mem_append.1 hm with hm | hm
                          · exact h5 m hm
                          · rw [List.mem_singleton.1 hm]; exact .inl (List.contains_iff_mem.1 HIN.out)
                        · exact .inr h5
                      case measure => simp [intOf]; omega
                  · obtain rfl : k = z.length := by omega
                    rcases Q5.out with ⟨rfl, h5⟩ | h5
                    · have ST : Hid (Stuck z) := by
                        rw [List.take_length] at h5
                        exact ⟨names p, Q1.out.more hlo, fun m hm hne => (h5 m hm).resolve_left hne⟩
                      clear h5 Q5
                      go_wp2
                      go_ret2
                      exact ⟨BW.out _ Q4.out, .inr ⟨HN.out, .inr ⟨H0.out, .inr ⟨RF.out, .inl ⟨ST.out, rfl⟩⟩⟩⟩⟩
                    · have t4 : ((p.length : Int) == (o.length : Int)) = false := by rw [beq_eq_false_iff_ne]; omega
                      have H5 := Lib.hid h5; clear h5 Q5
                      go_wp2
                      go_roundw
                      case rel => exact ⟨p, Q1.out, Q2.out, Q3.out, Q4.out⟩
                      case measure => have := H5.out; simp [lenOf]; omega
              · have t3 : decide (o.length < z.length) = false := decide_eq_false hlo
                have DN := Lib.hid (Q1.out.done ND.out (by omega))
                have OL : Hid (o.length ≤ 8796093022208) := by have h1 := Q1.out.cnt; have h2 := HN.out; show _ ≤ _; omega
                clear hlo
                go_wp2
                go_ret2
                exact ⟨BW.out _ Q4.out, .inr ⟨HN.out, .inr ⟨H0.out, .inr ⟨RF.out, .inr ⟨o, _, McIn.own Q3.out OL.out, Q1.out.ord, DN.out, rfl⟩⟩⟩⟩⟩
    · have B1 := Lib.hid hb
      have H0 := Lib.hid h0
      have t2 : (formR [] z != 0) = true := by simpa using h0
      clear hb h0 BY
      go_wp2
      go_ret2
      exact ⟨B1.out, .inr ⟨HN.out, .inl ⟨H0.out, rfl⟩⟩⟩
  · have t1 : decide (40 < (z.length : Int)) = true := decide_eq_true (by omega)
    have HN := Lib.hid hn
    obtain ⟨a, cap, rfl, _⟩ := h
    clear hn hx
    go_enter Try.func35, Try.ntmps35
    go_wp2
    go_ret2
    exact ⟨Below.refl _ _, .inl ⟨by have := HN.out; omega, rfl⟩⟩
end Go.Proofs.Ytoinflfibofofaa
