/-
  What the reference's LinesText answers: what Print answers. Condition: each line's text is shorter than 2^32 bytes.
-/
import Derived.Test.YtnfjcclblggbiaaDoorLRe
namespace Go.Proofs.YtnfjcclblggbiaaDoor
open Go.ChangeShapes Go.WideShapes Go.ChangeAt Go.RowKit

theorem body_at {z : List Ln} {k : Nat} (h : k < z.length) {a : Nat} (hf : fit (a : Int) (z.drop k) = true) :
    (atOf z k = (a : Int) + 1 → body (a : Int) (z.drop k) = (esc (txOf z k) ++ [10]) ++ body ((a + 1 : Nat) : Int) (z.drop (k + 1)) ∧ fit ((a + 1 : Nat) : Int) (z.drop (k + 1)) = true ∧ lastAt (a : Int) (z.drop k) = lastAt ((a + 1 : Nat) : Int) (z.drop (k + 1)) ∧ (esc (txOf z k)).length ≤ 20000) ∧
    (atOf z k ≠ (a : Int) + 1 → body (a : Int) (z.drop k) = [10] ++ body ((a + 1 : Nat) : Int) (z.drop k) ∧ fit ((a + 1 : Nat) : Int) (z.drop k) = true ∧ lastAt (a : Int) (z.drop k) = lastAt ((a + 1 : Nat) : Int) (z.drop k)) := by
  have hs := fit_step h (a : Int)
  rw [hs, Bool.and_eq_true, Bool.and_eq_true, decide_eq_true_iff] at hf
  obtain ⟨⟨h1, h2⟩, h3⟩ := hf
  constructor
  · intro e
    obtain ⟨_, _, _, _, s5, _⟩ := surv_facts h2
    rw [body_step h, last_step h, e]
    rw [e] at h3
    have e0 : ((a : Int) + 1 - (a : Int) - 1).toNat = 0 := by omega
    have e1 : ((a + 1 : Nat) : Int) = (a : Int) + 1 := by omega
    rw [e0, e1]
    refine ⟨by simp, h3, rfl, s5⟩
  · intro e
    have e1 : ((a + 1 : Nat) : Int) = (a : Int) + 1 := by omega
    have e0 : (atOf z k - (a : Int) - 1).toNat = (atOf z k - ((a : Int) + 1) - 1).toNat + 1 := by omega
    rw [body_step h, body_step h, last_step h, last_step h, fit_step h, e0, e1, h2, h3]
    refine ⟨by rw [List.replicate_succ]; rfl, ?_, rfl⟩
    rw [decide_eq_true (by omega)]; rfl
theorem fit_more {z : List Ln} {k : Nat} {a : Nat} (hl : (a : Int) + 1 ≤ lastAt (a : Int) (z.drop k)) : k < z.length := by
  rcases Nat.lt_or_ge k z.length with h | h
  · exact h
  · rw [List.drop_of_length_le h, lastAt] at hl; omega
theorem fit_done {z : List Ln} {k : Nat} {a : Nat} (hf : fit (a : Int) (z.drop k) = true) (hl : lastAt (a : Int) (z.drop k) ≤ (a : Int)) : body (a : Int) (z.drop k) = [] := by
  rcases Nat.lt_or_ge k z.length with h | h
  · rw [fit_step h, Bool.and_eq_true, Bool.and_eq_true, decide_eq_true_iff] at hf
    rw [last_step h] at hl
    have := fit_le _ _ hf.2
    omega
  · rw [List.drop_of_length_le h]; rfl

set_option maxHeartbeats 4000000 in
set_option maxRecDepth 100000 in
theorem linesText_any {w : World} {v : Value} {z : List Ln} (h : LIn w v z) (hx : ∀ x ∈ z, x.2.length < 4294967281) :
    Calls Tryd.prog 16 #[v] w (PPost z w) := by
  have hn : z.length ≤ 8796093022208 := by obtain ⟨_, _, _, _, _, h4, _⟩ := h; exact h4
  rcases h.open with ⟨rfl, a, cap, rfl⟩ | ⟨hpos, b, off, cap, rfl, hcap, hlt, hc⟩
  · clear h hx hn
    go_enter Tryd.func16, Tryd.ntmps16
    go_wp2_with fail
    refine wp_loop_rounds 1 ?_
    repeat any_goals (rw [rounds_succ]; go_wp2_with fail)
    refine wp_loop_rounds 1 ?_
    repeat any_goals (rw [rounds_succ]; go_wp2_with fail)
    go_ret2
    exact ⟨rfl, Below.refl _ _⟩
  · have HC : Hid (∀ W, Below w.heap.size w W → ∀ k, k < z.length → W.cell? ⟨b, off + k * 2, none⟩ = some (.int .i64 (atOf z k)) ∧ W.cell? ⟨b, off + k * 2 + 1, none⟩ = some (.string (bs (txOf z k)))) := fun W hW k hk => ⟨cell_later hW (hc k _ (at_some hk)).1, cell_later hW (hc k _ (at_some hk)).2⟩
    have HX : Hid (∀ k, k < z.length → (txOf z k).length < 4294967281) := fun k hk => hx _ (List.mem_of_getElem? (at_some hk))
    have FS : Hid (∀ k, k < z.length → ∀ p, _) := fun k hk p => fit_step (z := z) (k := k) hk p
    have LS : Hid (∀ k, k < z.length → ∀ p, _) := fun k hk p => last_step (z := z) (k := k) hk p
    have BA2 : Hid (∀ k, k < z.length → ∀ a : Nat, fit (a : Int) (z.drop k) = true → _) := fun k hk a hf => body_at (z := z) (k := k) (a := a) hk hf
    have D0 : Hid (z.drop 0 = z) := rfl
    have DN : Hid (z.drop z.length = []) := List.drop_length
    have BB : Hid (∀ a b : Str, ((bs a).toList == (bs b).toList) = decide (a = b)) := fun a b => by rw [bs_toList, bs_toList]; by_cases h : a = b <;> simp [h]
    clear h hc hx
    generalize atOf z = f at *
    generalize txOf z = g at *
    go_enter Tryd.func16, Tryd.ntmps16
    go_wp2_with fail
    go_loopw [4, 14] (fun s4 i wr => ∃ (k : Nat) (p : Int), k ≤ z.length ∧ s4 = .int .i64 p ∧ i = .int .i64 (k : Int) ∧ fit 0 z = fit p (z.drop k) ∧ lastAt 0 z = lastAt p (z.drop k) ∧ Below w.heap.size w wr) (fun _ i _ => z.length - (intOf i).toNat)
    case atStart => exact ⟨0, 0, Nat.zero_le _, rfl, rfl, by rw [D0.out], by rw [D0.out], Below.refl _ _⟩
    case round =>
      obtain ⟨k, p, hk, rfl, rfl, q1, q2, q3⟩ := hrel
      have Q1 := Lib.hid q1; have Q2 := Lib.hid q2; have Q3 := Lib.hid q3; clear q1 q2 q3
      by_cases hk2 : k < z.length
      · obtain ⟨c1, c2⟩ := HC.out wr Q3.out k hk2
        have BA : Hid (∀ o, Below w.heap.size w (wr.alloc o)) := fun o => Q3.out.alloc Q3.out.size o
        have F := Lib.hid (FS.out k hk2 p)
        have gl := HX.out k hk2
        have SH : Hid (∀ W, Calls Tryd.prog 41 #[.string (bs (g k))] W fun e w' => e = .returned (.string (bs (esc (g k)))) ∧ w' = W) := fun W => shown_any (bs (g k)) W (by rw [bs_size]; omega)
        have LO : Hid (∀ W, Calls Tryd.prog 8 #[.string (bs (esc (g k)))] W (JPost (esc (g k)) W)) := fun W => linesOf_any (bs (esc (g k))) W (by rw [bs_size]; have := esc_le (g k); omega)
        unfold JPost at LO
        have JL := Lib.hid (joinR_few (esc (g k)))
        have SU : Hid (surv (g k) = decide ((joinR (esc (g k))).2 = 0 ∧ (joinR (esc (g k))).1.length = 1 ∧ ((joinR (esc (g k))).1.getD 0 (0, [])).2 = g k)) := rfl
        have ST := Lib.hid (stay_new wr (.int .i64 (f k)) (.string (bs (g k))))
        go_wp2_with fail
        refine (SH.out _).mono ?_
        rintro e w2 ⟨rfl, hw2⟩
        rw [hw2]
        clear hw2 w2
        go_wp2_with fail
        refine (LO.out _).mono ?_
        rintro e w2 ⟨v2, rfl, o2, q⟩
        have S2 := Lib.hid (ST.out.later q)
        have B2 := Lib.hid ((BA.out _).trans (q.mono (BA.out _).size)); clear q c1 c2
        have I := Lib.hid (LIn.own o2 (Nat.le_trans JL.out (by decide))); clear o2
        generalize (joinR (esc (g k))).2 = E at *
        generalize (joinR (esc (g k))).1 = Z at *
        obtain ⟨d1, d2⟩ := S2.out.cells
        by_cases hle : f k ≤ p
        · have t1 : decide (f k ≤ p) = true := decide_eq_true hle
          have R3 : Hid (printR z = ([], 3)) := Lib.hid (printR_3 (by rw [Q1.out, F.out, decide_eq_false (show ¬ p < f k by omega)]; rfl))
          clear hle
          go_wp2_with fail
          go_quiet (fail)
          go_wp2
          go_ret2
          unfold PPost; rw [R3.out]
          exact ⟨rfl, below_drewN' B2.out _⟩
        · have t1 : decide (f k ≤ p) = false := decide_eq_false hle
          rw [decide_eq_true (show p < f k by omega)] at F
          clear hle
          by_cases hE : E = 0
          · subst hE
            by_cases hZ : Z.length = 1
            · obtain ⟨y, rfl⟩ := List.length_eq_one_iff.1 hZ
              clear hZ
              rcases I.out.open with ⟨hz, _⟩ | ⟨_, b2, off2, cap2, rfl, hcap2, hlt2, hc2⟩
              · cases hz
              · obtain ⟨x0, x1⟩ := hc2 0 y rfl
                rw [Nat.zero_mul, Nat.add_zero] at x0 x1
                clear hc2
                simp only [List.length_cons, List.length_nil, Nat.zero_add]
                have e2 := BB.out y.2 (g k)
                by_cases hy : y.2 = g k
                · rw [decide_eq_true hy] at e2
                  have SV : Hid (surv (g k) = true) := Lib.hid (by rw [SU.out]; exact decide_eq_true ⟨rfl, rfl, hy⟩)
                  rw [SV.out] at F
                  clear hy
                  go_wp2_with fail
                  go_quiet (fail)
                  have S3 : Hid (Stay wr.heap.size (.int .i64 (f k)) (.string (bs (g k))) (w2.drewN nq)) := S2.out
                  obtain ⟨d3, d4⟩ := S3.out.cells
                  have B3 := Lib.hid (below_drewN' B2.out nq)
                  clear S2 d1 d2 x0 x1
                  generalize w2.drewN nq = w3 at *
                  go_wp2
                  go_roundw
                  case rel =>
                    refine ⟨k + 1, f k, by omega, rfl, by go_num, ?_, ?_, B3.out⟩
                    · rw [Q1.out, F.out]; rfl
                    · rw [Q2.out, LS.out k hk2]
                  case measure => simp [intOf]; omega
                · rw [decide_eq_false hy] at e2
                  have R3 : Hid (printR z = ([], 3)) := Lib.hid (printR_3 (by rw [Q1.out, F.out, SU.out, decide_eq_false (fun h => hy h.2.2)]; rfl))
                  clear hy
                  go_wp2_with fail
                  go_quiet (fail)
                  go_wp2
                  go_ret2
                  unfold PPost; rw [R3.out]
                  exact ⟨rfl, below_drewN' B2.out _⟩
            · obtain ⟨a2, cap2, rfl, _⟩ := I.out
              have t2 : ((Z.length : Int) != 1) = true := by rw [bne_iff_ne]; omega
              have R3 : Hid (printR z = ([], 3)) := Lib.hid (printR_3 (by rw [Q1.out, F.out, SU.out, decide_eq_false (fun h => hZ h.2.1)]; rfl))
              clear hZ
              go_wp2_with fail
              go_quiet (fail)
              go_wp2
              go_ret2
              unfold PPost; rw [R3.out]
              exact ⟨rfl, below_drewN' B2.out _⟩
          · have t2 : (E != 0) = true := by rw [bne_iff_ne]; exact hE
            have R3 : Hid (printR z = ([], 3)) := Lib.hid (printR_3 (by rw [Q1.out, F.out, SU.out, decide_eq_false (fun h => hE h.1)]; rfl))
            clear hE
            go_wp2_with fail
            go_quiet (fail)
            go_wp2
            go_ret2
            unfold PPost; rw [R3.out]
            exact ⟨rfl, below_drewN' B2.out _⟩
      · obtain rfl : k = z.length := by omega
        have FT : Hid (fit 0 z = true) := Lib.hid (by rw [Q1.out, DN.out]; rfl)
        have LP : Hid (lastAt 0 z = p) := Lib.hid (by rw [Q2.out, DN.out]; rfl)
        clear Q1 Q2
        by_cases hp : 20000 < p
        · have R2 := Lib.hid (printR_2 FT.out (by rw [LP.out]; exact hp))
          go_wp2
          go_ret2
          unfold PPost; rw [R2.out]
          exact ⟨rfl, Q3.out⟩
        · have hp0 : 0 ≤ p := by have := fit_le z 0 FT.out; rw [LP.out] at this; exact this
          obtain ⟨n, rfl⟩ : ∃ n : Nat, p = n := ⟨p.toNat, by omega⟩
          have FM : Hid (∀ k a : Nat, (a : Int) + 1 ≤ lastAt (a : Int) (z.drop k) → k < z.length) := fun k a h => fit_more h
          have FD : Hid (∀ k a : Nat, fit (a : Int) (z.drop k) = true → lastAt (a : Int) (z.drop k) ≤ (a : Int) → body (a : Int) (z.drop k) = []) := fun k a h1 h2 => fit_done h1 h2
          have NL : Hid (¬ 20000 < lastAt 0 z) := Lib.hid (by rw [LP.out]; exact hp)
          have FT0 : Hid (fit ((0 : Nat) : Int) (z.drop 0) = true) := FT
          have LP0 : Hid (lastAt ((0 : Nat) : Int) (z.drop 0) = n) := LP
          have SH : Hid (∀ k W, k < z.length → Calls Tryd.prog 41 #[.string (bs (g k))] W fun e w' => e = .returned (.string (bs (esc (g k)))) ∧ w' = W) := fun k W hk => shown_any (bs (g k)) W (by rw [bs_size]; have := HX.out k hk; omega)
          have B0 : Hid (body 0 z = [] ++ body ((0 : Nat) : Int) (z.drop 0)) := rfl
          have hn2 : n ≤ 20000 := by omega
          clear hk hk2 hp hp0 LP FS LS DN D0
          go_wp2_with fail
          rename World => w1
          go_loopw [9, 10, 11] (fun s9 s10 s11 wl => ∃ (a k : Nat) (out : Str), a ≤ n ∧ s9 = .string (bs out) ∧ s10 = .int .i64 (k : Int) ∧ s11 = .int .i64 ((a : Int) + 1) ∧ k ≤ z.length ∧ body 0 z = out ++ body (a : Int) (z.drop k) ∧ fit (a : Int) (z.drop k) = true ∧ lastAt (a : Int) (z.drop k) = n ∧ out.length ≤ 20001 * a ∧ wl = w1) (fun _ _ s11 _ => n + 1 - (intOf s11).toNat)
          case atStart => exact ⟨0, 0, [], Nat.zero_le _, rfl, rfl, rfl, Nat.zero_le _, B0.out, FT0.out, LP0.out, Nat.le_refl _, rfl⟩
          case round =>
            obtain ⟨a, k, out, ha, rfl, rfl, rfl, hk, q1, q2, q3, hol, hwl⟩ := hrel
            have hwl := hwl.symm
            subst hwl
            have Q1 := Lib.hid q1; have Q2 := Lib.hid q2; have Q3' := Lib.hid q3; clear q1 q2 q3
            have oz : (bs out).size ≤ 400020000 := by rw [bs_size]; omega
            by_cases han : a < n
            · have hk2 := FM.out k a (by rw [Q3'.out]; omega)
              obtain ⟨c1, c2⟩ := HC.out w1 Q3.out k hk2
              obtain ⟨y1, y2⟩ := BA2.out k hk2 a Q2.out
              have t0 : decide ((a : Int) + 1 ≤ (n : Int)) = true := decide_eq_true (by omega)
              have Y1 := Lib.hid y1; have Y2 := Lib.hid y2; clear y1 y2
              by_cases he : f k = (a : Int) + 1
              · obtain ⟨r1, r2, r3, r4⟩ := Y1.out he
                have R1 := Lib.hid r1; have R2 := Lib.hid r2; have R3 := Lib.hid r3; clear r1 r2 r3
                have t1 : (f k == (a : Int) + 1) = true := by rw [beq_iff_eq]; exact he
                have ez : (bs (esc (g k))).size ≤ 20000 := by rw [bs_size]; exact r4
                clear he
                go_wp2_with fail
                refine (SH.out k _ hk2).mono ?_
                rintro e w2 ⟨rfl, hw2⟩
                rw [hw2]
                clear hw2 w2
                have CAT : Hid (bs out ++ bs (esc (g k)) ++ ByteArray.mk #[10] = bs (out ++ (esc (g k) ++ [10]))) := Lib.hid (by rw [show ByteArray.mk #[10] = bs [10] from rfl, bs_app, bs_app, List.append_assoc])
                go_wp2
                go_roundw
                case rel =>
                  refine ⟨a + 1, k + 1, out ++ (esc (g k) ++ [10]), by omega, by rw [CAT.out], by go_num, by go_num, by omega, ?_, R2.out, by rw [← R3.out]; exact Q3'.out, by simp; omega, trivial⟩
                  rw [Q1.out, R1.out]; simp only [List.append_assoc]
                case measure => simp [intOf]; omega
              · obtain ⟨r1, r2, r3⟩ := Y2.out he
                have R1 := Lib.hid r1; have R2 := Lib.hid r2; have R3 := Lib.hid r3; clear r1 r2 r3
                have t1 : (f k == (a : Int) + 1) = false := by rw [beq_eq_false_iff_ne]; exact he
                clear he
                have CAT : Hid (bs out ++ ByteArray.mk #[10] = bs (out ++ [10])) := Lib.hid (by rw [show ByteArray.mk #[10] = bs [10] from rfl, bs_app])
                go_wp2
                go_roundw
                case rel =>
                  refine ⟨a + 1, k, out ++ [10], by omega, by rw [CAT.out], rfl, by go_num, hk, ?_, R2.out, by rw [← R3.out]; exact Q3'.out, by simp; omega, trivial⟩
                  rw [Q1.out, R1.out]; simp only [List.append_assoc]
                case measure => simp [intOf]; omega
            · obtain rfl : a = n := by omega
              have t0 : decide ((a : Int) + 1 ≤ (a : Int)) = false := decide_eq_false (by omega)
              have OB : Hid (body 0 z = out) := Lib.hid (by rw [Q1.out, FD.out k a Q2.out (by rw [Q3'.out]; omega), List.append_nil])
              have oe : (bs out).size = out.length := bs_size _
              by_cases ho : 20000 < out.length
              · have R2 := Lib.hid (printR_2' FT.out (by have := NL.out; omega) (by rw [OB.out]; exact ho))
                have t1 : decide (20000 < ((bs out).size : Int)) = true := decide_eq_true (by omega)
                clear oe
                go_wp2
                go_ret2
                unfold PPost; rw [R2.out]
                exact ⟨rfl, Q3.out⟩
              · have R0 : Hid (printR z = (out, 0)) := Lib.hid (by rw [printR_0 FT.out (by have := NL.out; omega) (by rw [OB.out]; omega), OB.out])
                have t1 : decide (20000 < ((bs out).size : Int)) = false := decide_eq_false (by omega)
                clear oe
                go_wp2
                go_ret2
                unfold PPost; rw [R0.out]
                exact ⟨rfl, Q3.out⟩
end Go.Proofs.YtnfjcclblggbiaaDoor
