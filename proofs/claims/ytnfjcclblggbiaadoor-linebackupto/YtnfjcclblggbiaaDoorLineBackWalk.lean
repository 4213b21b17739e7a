/-
  The law LineBack holds of every lines and string: the walk. Condition: each line's text is shorter than 2^32 bytes.
-/
import Derived.Test.YtnfjcclblggbiaaDoorLPr
import Derived.Test.YtnfjcclblggbiaaDoorLWd
import Derived.Test.YtnfjcclblggbiaaDoorLEq
namespace Go.Proofs.YtnfjcclblggbiaaDoor
open Go.ChangeShapes Go.WideShapes Go.ChangeAt Go.RowKit

theorem rise_step {z : List Ln} {k : Nat} (h : k < z.length) {p : Int} (hr : Rise p (z.drop k)) : p < atOf z k ∧ Rise (atOf z k) (z.drop (k + 1)) := by
  rw [drop_at h] at hr; exact hr
theorem indexAny_nl : ∀ {t : Str}, 10 ∉ t → Lib.indexAny t [10] = -1
  | [], _ => rfl
  | c :: r, h => by
    simp at h
    have ih := indexAny_nl h.2
    have : ([10] : List UInt8).contains c = false := by simp [Ne.symm h.1]
    rw [Lib.indexAny, this, ih]; rfl
theorem anyNL (t : Str) (w : World) (h : 10 ∉ t) : Calls Tryd.prog 19 #[.string (bs t), .string (ByteArray.mk #[10])] w fun e w' => e = .returned (.bool false) ∧ w' = w := by
  have H : Hid (Calls Tryd.prog 42 #[.string (bs t), .string (ByteArray.mk #[10])] w fun e w' => e = .returned (.int .i64 (-1)) ∧ w' = w) := by
    have := Tryd.strings_IndexAny_one (bs t) (ByteArray.mk #[10]) w (by rfl) (ascii_of_all (by decide))
    rw [bs_list, show (ByteArray.mk #[10]).data.toList = [10] from rfl, indexAny_nl h] at this
    exact this
  clear h
  go_enter Tryd.func19, Tryd.ntmps19
  go_wp2_with fail
  refine H.out.mono ?_
  rintro e w' ⟨rfl, rfl⟩
  go_wp2
  go_ret
  exact ⟨rfl, rfl⟩
theorem countNL (S : ByteArray) (w : World) : Calls Tryd.prog 20 #[.string S, .string (ByteArray.mk #[10])] w fun e w' => e = .returned (.int .i64 ((S.data.toList.count 10 : Nat) : Int)) ∧ w' = w := Tryd.strings_Count_one S 10 w
theorem joinR_none {s : Str} (h : (joinR s).2 ≠ 0) : (joinR s).1 = [] := by
  unfold joinR at h ⊢
  split
  · rfl
  · rename_i h1
    rw [if_neg h1] at h
    split
    · rename_i h2; rw [if_pos h2] at h; exact absurd rfl h
    · rfl

set_option maxHeartbeats 4000000 in
set_option maxRecDepth 100000 in
theorem walkBack {w : World} {v : Value} {z : List Ln} (h : LIn w v z) (hx : ∀ x ∈ z, x.2.length < 4294967281) (T : ByteArray) (ht : T.size ≤ 140737488355328) (hm : MX w) :
    Calls Tryd.prog 4 #[v, .string T] w fun e w' => e = .returned (.bool true) ∧ Below w.heap.size w w' := by
  have HL := Lib.hid (lines_true w hm)
  have HM := Lib.hid hm
  have HI := Lib.hid h
  have HP : Hid (∀ W, Below w.heap.size w W → Calls Tryd.prog 15 #[v] W (PPost z W)) := fun W hW => print_any (h.later hW) hx (hm.later hW)
  have JT : Hid (∀ w, MX w → Calls Tryd.prog 7 #[.string T] w (JPost T.data.toList w)) := fun w hm => join_any T w (by omega) hm
  have CN : Hid (∀ w, Calls Tryd.prog 20 #[.string T, .string (ByteArray.mk #[10])] w fun e w' => e = .returned (.int .i64 ((T.data.toList.count 10 : Nat) : Int)) ∧ w' = w) := fun w => countNL T w
  have CM : Hid (T.data.toList.count 10 ≤ 140737488355328) := Nat.le_trans List.count_le_length (by rw [size_list]; exact ht)
  have LB := Lib.hid (joinR_few T.data.toList)
  have LL : Hid ((joinR T.data.toList).2 = 0 → Rise 0 (joinR T.data.toList).1 ∧ ∀ x ∈ (joinR T.data.toList).1, x.2 ≠ [] ∧ 10 ∉ x.2 ∧ x.1 ≤ ((T.data.toList.count 10 : Nat) : Int) + 1) := lines_last
  have LN : Hid ((joinR T.data.toList).2 ≠ 0 → (joinR T.data.toList).1 = []) := joinR_none
  have PB : Hid ((printR z).2 = 0 → joinR (printR z).1 = (z, 0) ∧ (printR z).1.length ≤ 20000) := fun h0 => by
    have e := print_back h0
    exact ⟨e, (joinR_ok (by rw [e])).2⟩
  have PN : Hid ((printR z).2 ≠ 0 → (printR z).1 = []) := print_none
  have JP : Hid (∀ (P : Str) (W : World), MX W → joinR P = (z, 0) → P.length ≤ 20000 → Calls Tryd.prog 7 #[.string (bs P)] W fun e w' => ∃ v, e = .returned (.tuple #[v, .int .i64 0]) ∧ LIn w' v z ∧ Below W.heap.size W w') := fun P W hW he hl => by
    refine (join_any (bs P) W (by rw [bs_size]; omega) hW).mono ?_
    rintro e w' ⟨v, rfl, h1, h2⟩
    rw [bs_list, he] at h1 ⊢
    exact ⟨v, rfl, LIn.own h1 (by obtain ⟨_, _, _, _, _, h4, _⟩ := h; exact h4), h2⟩
  unfold JPost at JT
  unfold PPost at HP
  generalize T.data.toList.count 10 = cnt at *
  generalize joinR T.data.toList = RT at *
  generalize printR z = RP at *
  obtain ⟨P, E⟩ := RP
  obtain ⟨Z, E2⟩ := RT
  dsimp only at *
  clear hm h hx ht
  go_enter Tryd.func4, Tryd.ntmps4
  go_wp2_with fail
  refine HL.out.mono ?_
  rintro e w1 ⟨rfl, q⟩
  have B1 := Lib.hid q; clear q
  go_wp2_with fail
  refine (HP.out _ B1.out).mono ?_
  rintro e w2 ⟨rfl, q⟩
  have B2 := Lib.hid (B1.out.trans (q.mono B1.out.size)); clear q
  by_cases hE : E = 0
  · subst hE
    have M2 := Lib.hid (HM.out.later B2.out)
    obtain ⟨p1, p2⟩ := PB.out rfl
    go_wp2_with fail
    refine (JP.out P _ M2.out p1 p2).mono ?_
    rintro e w3 ⟨v3, rfl, h3, q⟩
    have B3 := Lib.hid (B2.out.trans (q.mono B2.out.size)); clear q p1 p2
    have EQ := Lib.hid (leq_of (HI.out.later B3.out) h3); clear h3
    rw [decide_eq_true rfl] at EQ
    go_wp2_with fail
    refine EQ.out.mono ?_
    rintro e w4 ⟨rfl, k4, q⟩
    have BT : Hid (Below w.heap.size w w4) := by rw [q]; exact below_drewN' B3.out k4
    clear q
    have MT := Lib.hid (HM.out.later BT.out)
    go_wp2_with fail
    refine (JT.out _ MT.out).mono ?_
    rintro e w5 ⟨va, rfl, o5, q⟩
    have B5 := Lib.hid (BT.out.trans (q.mono BT.out.size)); clear q
    have I5 := Lib.hid (LIn.own o5 (Nat.le_trans LB.out (by decide))); clear o5
    by_cases h2 : E2 = 0
    · subst h2
      obtain ⟨r1, r2⟩ := LL.out rfl
      have R2 := Lib.hid r2; have R1 := Lib.hid r1; clear r1 r2
      rcases I5.out.open with ⟨hz, a5, cap5, rfl⟩ | ⟨hpos, b, off, cap5, rfl, hcap, hlt, hc⟩
      · have hcn : (0 : Int) ≤ (cnt : Int) + 1 := by omega
        have hcm := CM.out
        go_wp2_with fail
        refine wp_loop_rounds 1 ?_
        repeat any_goals (rw [rounds_succ]; go_wp2_with fail)
        refine (CN.out _).mono ?_
        rintro e w6 ⟨rfl, rfl⟩
        go_wp2
        go_ret
        exact ⟨rfl, B5.out⟩
      · have HC : Hid (∀ W, Below w5.heap.size w5 W → ∀ k, k < Z.length → W.cell? ⟨b, off + k * 2, none⟩ = some (.int .i64 (atOf Z k)) ∧ W.cell? ⟨b, off + k * 2 + 1, none⟩ = some (.string (bs (txOf Z k)))) := fun W hW k hk => ⟨cell_later hW (hc k _ (at_some hk)).1, cell_later hW (hc k _ (at_some hk)).2⟩
        have RS : Hid (∀ k, k < Z.length → ∀ p, Rise p (Z.drop k) → p < atOf Z k ∧ Rise (atOf Z k) (Z.drop (k + 1))) := fun k hk p hr => rise_step hk hr
        have TX : Hid (∀ k, k < Z.length → txOf Z k ≠ [] ∧ 10 ∉ txOf Z k ∧ atOf Z k ≤ (cnt : Int) + 1) := fun k hk => R2.out _ (List.mem_of_getElem? (at_some hk))
        have D0 : Hid (Z.drop 0 = Z) := rfl
        clear hc I5 R2
        have hZl := LB.out
        generalize atOf Z = f at *
        generalize txOf Z = g at *
        go_wp2_with fail
        go_loopw [11, 50] (fun s11 i wr => ∃ (k : Nat) (p : Int), k ≤ Z.length ∧ s11 = .int .i64 p ∧ i = .int .i64 (k : Int) ∧ Rise p (Z.drop k) ∧ p ≤ (cnt : Int) + 1 ∧ Below w5.heap.size w5 wr) (fun _ i _ => Z.length - (intOf i).toNat)
        case atStart => exact ⟨0, 0, Nat.zero_le _, rfl, rfl, by rw [D0.out]; exact R1.out, by omega, Below.refl _ _⟩
        case round =>
          obtain ⟨k, p, hk, rfl, rfl, q1, hpc, q3⟩ := hrel
          have Q1 := Lib.hid q1; have Q3 := Lib.hid q3; clear q1 q3
          by_cases hk2 : k < Z.length
          · obtain ⟨c1, c2⟩ := HC.out wr Q3.out k hk2
            obtain ⟨s1, s2⟩ := RS.out k hk2 p Q1.out
            obtain ⟨x1, x2, x3⟩ := TX.out k hk2
            have S2 := Lib.hid s2
            have t1 : decide (f k ≤ p) = false := decide_eq_false (by omega)
            have t2 := bs_some x1
            have AN : Hid (∀ W, Calls Tryd.prog 19 #[.string (bs (g k)), .string (ByteArray.mk #[10])] W fun e w' => e = .returned (.bool false) ∧ w' = W) := fun W => anyNL (g k) W x2
            have BA : Hid (∀ o, Below w5.heap.size w5 (wr.alloc o)) := fun o => Q3.out.alloc Q3.out.size o
            clear s1 s2 x1 x2
            go_wp2_with fail
            refine (AN.out _).mono ?_
            rintro e w6 ⟨rfl, rfl⟩
            go_wp2
            go_roundw
            case rel => exact ⟨k + 1, f k, by omega, rfl, by go_num, S2.out, x3, BA.out _⟩
            case measure => simp [intOf]; omega
          · have t1 : decide (p ≤ (cnt : Int) + 1) = true := decide_eq_true hpc
            have hcm := CM.out
            go_wp2_with fail
            refine (CN.out _).mono ?_
            rintro e w6 ⟨rfl, rfl⟩
            go_wp2
            go_ret
            exact ⟨rfl, B5.out.trans (Q3.out.mono B5.out.size)⟩
    · have hz := LN.out h2
      subst hz
      have t1 : (E2 != 0) = true := by rw [bne_iff_ne]; exact h2
      clear h2
      obtain ⟨a5, cap5, rfl, _⟩ := I5.out
      go_wp2
      go_ret
      exact ⟨rfl, B5.out⟩
  · have hP := PN.out hE
    subst hP
    have t0 : (E == 0) = false := by rw [beq_eq_false_iff_ne]; exact hE
    have hz : bs [] = ByteArray.mk #[] := rfl
    rw [hz]
    clear hE
    have BT := B2
    have MT := Lib.hid (HM.out.later BT.out)
    go_wp2_with fail
    refine (JT.out _ MT.out).mono ?_
    rintro e w5 ⟨va, rfl, o5, q⟩
    have B5 := Lib.hid (BT.out.trans (q.mono BT.out.size)); clear q
    have I5 := Lib.hid (LIn.own o5 (Nat.le_trans LB.out (by decide))); clear o5
    by_cases h2 : E2 = 0
    · subst h2
      obtain ⟨r1, r2⟩ := LL.out rfl
      have R2 := Lib.hid r2; have R1 := Lib.hid r1; clear r1 r2
      rcases I5.out.open with ⟨hz, a5, cap5, rfl⟩ | ⟨hpos, b, off, cap5, rfl, hcap, hlt, hc⟩
      · have hcn : (0 : Int) ≤ (cnt : Int) + 1 := by omega
        have hcm := CM.out
        go_wp2_with fail
        refine wp_loop_rounds 1 ?_
        repeat any_goals (rw [rounds_succ]; go_wp2_with fail)
        refine (CN.out _).mono ?_
        rintro e w6 ⟨rfl, rfl⟩
        go_wp2
        go_ret
        exact ⟨rfl, B5.out⟩
      · have HC : Hid (∀ W, Below w5.heap.size w5 W → ∀ k, k < Z.length → W.cell? ⟨b, off + k * 2, none⟩ = some (.int .i64 (atOf Z k)) ∧ W.cell? ⟨b, off + k * 2 + 1, none⟩ = some (.string (bs (txOf Z k)))) := fun W hW k hk => ⟨cell_later hW (hc k _ (at_some hk)).1, cell_later hW (hc k _ (at_some hk)).2⟩
        have RS : Hid (∀ k, k < Z.length → ∀ p, Rise p (Z.drop k) → p < atOf Z k ∧ Rise (atOf Z k) (Z.drop (k + 1))) := fun k hk p hr => rise_step hk hr
        have TX : Hid (∀ k, k < Z.length → txOf Z k ≠ [] ∧ 10 ∉ txOf Z k ∧ atOf Z k ≤ (cnt : Int) + 1) := fun k hk => R2.out _ (List.mem_of_getElem? (at_some hk))
        have D0 : Hid (Z.drop 0 = Z) := rfl
        clear hc I5 R2
        have hZl := LB.out
        generalize atOf Z = f at *
        generalize txOf Z = g at *
        go_wp2_with fail
        go_loopw [11, 50] (fun s11 i wr => ∃ (k : Nat) (p : Int), k ≤ Z.length ∧ s11 = .int .i64 p ∧ i = .int .i64 (k : Int) ∧ Rise p (Z.drop k) ∧ p ≤ (cnt : Int) + 1 ∧ Below w5.heap.size w5 wr) (fun _ i _ => Z.length - (intOf i).toNat)
        case atStart => exact ⟨0, 0, Nat.zero_le _, rfl, rfl, by rw [D0.out]; exact R1.out, by omega, Below.refl _ _⟩
        case round =>
          obtain ⟨k, p, hk, rfl, rfl, q1, hpc, q3⟩ := hrel
          have Q1 := Lib.hid q1; have Q3 := Lib.hid q3; clear q1 q3
          by_cases hk2 : k < Z.length
          · obtain ⟨c1, c2⟩ := HC.out wr Q3.out k hk2
            obtain ⟨s1, s2⟩ := RS.out k hk2 p Q1.out
            obtain ⟨x1, x2, x3⟩ := TX.out k hk2
            have S2 := Lib.hid s2
            have t1 : decide (f k ≤ p) = false := decide_eq_false (by omega)
            have t2 := bs_some x1
            have AN : Hid (∀ W, Calls Tryd.prog 19 #[.string (bs (g k)), .string (ByteArray.mk #[10])] W fun e w' => e = .returned (.bool false) ∧ w' = W) := fun W => anyNL (g k) W x2
            have BA : Hid (∀ o, Below w5.heap.size w5 (wr.alloc o)) := fun o => Q3.out.alloc Q3.out.size o
            clear s1 s2 x1 x2
            go_wp2_with fail
            refine (AN.out _).mono ?_
            rintro e w6 ⟨rfl, rfl⟩
            go_wp2
            go_roundw
            case rel => exact ⟨k + 1, f k, by omega, rfl, by go_num, S2.out, x3, BA.out _⟩
            case measure => simp [intOf]; omega
          · have t1 : decide (p ≤ (cnt : Int) + 1) = true := decide_eq_true hpc
            have hcm := CM.out
            go_wp2_with fail
            refine (CN.out _).mono ?_
            rintro e w6 ⟨rfl, rfl⟩
            go_wp2
            go_ret
            exact ⟨rfl, B5.out.trans (Q3.out.mono B5.out.size)⟩
    · have hz := LN.out h2
      subst hz
      have t1 : (E2 != 0) = true := by rw [bne_iff_ne]; exact h2
      clear h2
      obtain ⟨a5, cap5, rfl, _⟩ := I5.out
      go_wp2
      go_ret
      exact ⟨rfl, B5.out⟩
end Go.Proofs.YtnfjcclblggbiaaDoor
