/-
  What package line's Print answers. Condition: each line's text is shorter than 2^32 bytes.
-/
import Derived.Test.YtnfjcclblggbiaaDoorLSv
namespace Go.Proofs.YtnfjcclblggbiaaDoor
open Go.ChangeShapes Go.WideShapes Go.ChangeAt Go.RowKit

def atOf (z : List Ln) (k : Nat) : Int := (z.getD k (0, [])).1
def txOf (z : List Ln) (k : Nat) : Str := (z.getD k (0, [])).2
theorem at_some {z : List Ln} {k : Nat} (h : k < z.length) : z[k]? = some (atOf z k, txOf z k) := by
  unfold atOf txOf; rw [List.getD, List.getElem?_eq_getElem h]; rfl
theorem drop_at {z : List Ln} {k : Nat} (h : k < z.length) : z.drop k = (atOf z k, txOf z k) :: z.drop (k + 1) := by
  rw [List.drop_eq_getElem_cons h]
  have := at_some h
  rw [List.getElem?_eq_getElem h] at this
  simp at this
  rw [this]
theorem fit_step {z : List Ln} {k : Nat} (h : k < z.length) (p : Int) : fit p (z.drop k) = ((decide (p < atOf z k) && surv (txOf z k)) && fit (atOf z k) (z.drop (k + 1))) := by
  rw [drop_at h, fit]
theorem last_step {z : List Ln} {k : Nat} (h : k < z.length) (p : Int) : lastAt p (z.drop k) = lastAt (atOf z k) (z.drop (k + 1)) := by
  rw [drop_at h, lastAt]
theorem body_step {z : List Ln} {k : Nat} (h : k < z.length) (p : Int) : body p (z.drop k) = List.replicate (atOf z k - p - 1).toNat 10 ++ (esc (txOf z k) ++ 10 :: body (atOf z k) (z.drop (k + 1))) := by
  rw [drop_at h, body]
theorem fit_le : ∀ (z : List Ln) (p : Int), fit p z = true → p ≤ lastAt p z
  | [], p, _ => Int.le_refl _
  | x :: r, p, h => by
    rw [fit, Bool.and_eq_true, Bool.and_eq_true, decide_eq_true_iff] at h
    have := fit_le r x.1 h.2
    rw [lastAt]
    have := h.1.1
    omega

/-- what Print hands back -/
def PPost (z : List Ln) (w : World) (e : Ending) (w' : World) : Prop :=
  e = .returned (.tuple #[.string (bs (printR z).1), .int .i64 (printR z).2]) ∧ Below w.heap.size w w'
theorem rep_list (n : Nat) : Lib.repeatL [10] n = List.replicate n 10 := by
  induction n with
  | zero => rfl
  | succ n ih => rw [Lib.repeatL, ih]; rfl
theorem rep_nl (n : Nat) (N : Int) (hN : N = n) (w : World) (h : n ≤ 20000) : Calls Tryd.prog 36 #[.string (ByteArray.mk #[10]), .int .i64 N] w fun e w' => e = .returned (.string (bs (List.replicate n 10))) ∧ Below w.heap.size w w' := by
  subst hN
  refine (Tryd.strings_Repeat (ByteArray.mk #[10]) n w (by omega) (by have : (ByteArray.mk #[10]).size = 1 := rfl; rw [this]; omega)).mono ?_
  rintro e w' ⟨rfl, q⟩
  exact ⟨ret_s (rep_list n), q⟩

/-- the line in block k stays -/
def Stay (k : Nat) (x : Value) (y : Value) (w : World) : Prop := w.heap[k]? = some (.cells #[x, y] 34 (0, 0))
theorem Stay.cells {k : Nat} {x y : Value} {w : World} (h : Stay k x y w) : w.cell? ⟨k, 0, none⟩ = some x ∧ w.cell? ⟨k, 1, none⟩ = some y := by
  unfold Stay at h
  unfold World.cell?
  simp [h]
theorem Stay.later {k : Nat} {x y : Value} {w w' : World} (h : Stay k x y w) (hb : Below w.heap.size w w') : Stay k x y w' := by
  unfold Stay at h ⊢
  have hk : k < w.heap.size := by
    rcases Nat.lt_or_ge k w.heap.size with h' | h'
    · exact h'
    · simp [Array.getElem?_eq_none h'] at h
  exact (hb.block _ hk).trans h
theorem stay_new (w : World) (x y : Value) : Stay w.heap.size x y (w.alloc (.cells #[x, y] 34)) := by unfold Stay; exact heap_alloc_new _ _
theorem Stay.kept {k b : Nat} {x y : Value} {w w' : World} (h : Stay k x y w) (hb : Lib.OthersKept 5 (some b) w w') (hne : k ≠ b) : Stay k x y w' := by
  refine hb k _ h (by simpa using hne) ?_
  intro c fz e
  cases e
theorem Bd.lt {B b : Nat} {l : Str} {w : World} (h : Bd B b l w) : b < w.heap.size := by
  have key : ∀ {p}, Lib.BuilderAtF 56 5 B b p (Lib.byteCells l) w → b < w.heap.size := by
    rintro p ⟨_, v, h2, _⟩
    rcases Nat.lt_or_ge b w.heap.size with h' | h'
    · exact h'
    · simp [Array.getElem?_eq_none h'] at h2
  exact h.elim key key
theorem wByteK (B b : Nat) (l : Str) (c : UInt8) (C : Int) (hC : C = c.toNat) (w : World) (h : Bd B b l w) (hlen : l.length + 1 ≤ 140737488355328) (hBw : B ≤ w.heap.size) :
    Calls Tryd.prog 38 #[.pointer (some ⟨b, 0, none⟩), .int .u8 C] w fun e w' => e = .returned .nilIface ∧ Bd B b (l ++ [c]) w' ∧ Below B w w' ∧ Lib.OthersKept 5 (some b) w w' := by
  subst hC
  refine (Any.Builder_WriteByte_k wbL wbX B b (Lib.byteCells l) c.toNat w h (by rw [Lib.byteCells_length]; exact hlen) hBw).mono ?_
  rintro e w' ⟨rfl, h1, h2, h3⟩
  refine ⟨rfl, .inr ?_, h2, h3⟩
  rw [Lib.byteCells_append]
  exact h1
theorem wStrK (B b : Nat) (l x : Str) (w : World) (h : Bd B b l w) (hlen : l.length + x.length ≤ 140737488355328) (hBw : B ≤ w.heap.size) :
    Calls Tryd.prog 35 #[.pointer (some ⟨b, 0, none⟩), .string (bs x)] w fun e w' => (∃ r, e = .returned r) ∧ Bd B b (l ++ x) w' ∧ Below B w w' ∧ Lib.OthersKept 5 (some b) w w' := by
  refine (Any.Builder_WriteString_k wsL Tryd.Builder_Extra_155 B b (Lib.byteCells l) (bs x) w h (by rw [Lib.byteCells_length, bs_size]; exact hlen) hBw).mono ?_
  rintro e w' ⟨rfl, h1, h2, h3⟩
  refine ⟨⟨_, rfl⟩, .inr ?_, h2, h3⟩
  rw [Lib.byteCells_append, ← bs_list x, ← Lib.strCells_eq]
  exact h1
theorem printR_3 {z : List Ln} (h : fit 0 z = false) : printR z = ([], 3) := by unfold printR; rw [h]; rfl
theorem printR_2 {z : List Ln} (h : fit 0 z = true) (hl : 20000 < lastAt 0 z) : printR z = ([], 2) := by unfold printR; rw [if_pos h, if_pos hl]
theorem printR_2' {z : List Ln} (h : fit 0 z = true) (hl : ¬ 20000 < lastAt 0 z) (hb : 20000 < (body 0 z).length) : printR z = ([], 2) := by unfold printR; rw [if_pos h, if_neg hl, if_pos hb]
theorem printR_0 {z : List Ln} (h : fit 0 z = true) (hl : ¬ 20000 < lastAt 0 z) (hb : (body 0 z).length ≤ 20000) : printR z = (body 0 z, 0) := by unfold printR; rw [if_pos h, if_neg hl, if_neg (by omega)]

set_option maxHeartbeats 4000000 in
set_option maxRecDepth 100000 in
theorem print_any {w : World} {v : Value} {z : List Ln} (h : LIn w v z) (hx : ∀ x ∈ z, x.2.length < 4294967281) (hm : MX w) :
    Calls Tryd.prog 15 #[v] w (PPost z w) := by
  have hn : z.length ≤ 8796093022208 := by obtain ⟨_, _, _, _, _, h4, _⟩ := h; exact h4
  rcases h.open with ⟨rfl, a, cap, rfl⟩ | ⟨hpos, b, off, cap, rfl, hcap, hlt, hc⟩
  · clear h hx hm hn
    have NB := Lib.hid (bd_new w)
    have BA : Hid (∀ o, Below w.heap.size w (w.alloc o)) := fun o => (Below.refl _ w).alloc (Nat.le_refl _) o
    have AS : Hid (∀ o, w.heap.size ≤ (w.alloc o).heap.size) := fun o => by simp
    go_enter Tryd.func15, Tryd.ntmps15
    go_wp2_with fail
    refine wp_loop_rounds 1 ?_
    repeat any_goals (rw [rounds_succ]; go_wp2_with fail)
    refine wp_loop_rounds 1 ?_
    repeat any_goals (rw [rounds_succ]; go_wp2_with fail)
    refine (bStr _ _ [] _ NB.out (AS.out _)).mono ?_
    rintro e w' ⟨rfl, q⟩
    have B := Lib.hid ((BA.out _).trans q); clear q
    go_wp2
    go_ret2
    exact ⟨rfl, B.out⟩
  · have HC : Hid (∀ W, Below w.heap.size w W → ∀ k, k < z.length → W.cell? ⟨b, off + k * 2, none⟩ = some (.int .i64 (atOf z k)) ∧ W.cell? ⟨b, off + k * 2 + 1, none⟩ = some (.string (bs (txOf z k)))) := fun W hW k hk => ⟨cell_later hW (hc k _ (at_some hk)).1, cell_later hW (hc k _ (at_some hk)).2⟩
    have HX : Hid (∀ k, k < z.length → (txOf z k).length < 4294967281) := fun k hk => hx _ (List.mem_of_getElem? (at_some hk))
    have FS : Hid (∀ k, k < z.length → ∀ p, _) := fun k hk p => fit_step (z := z) (k := k) hk p
    have LS : Hid (∀ k, k < z.length → ∀ p, _) := fun k hk p => last_step (z := z) (k := k) hk p
    have BS : Hid (∀ k, k < z.length → ∀ p, _) := fun k hk p => body_step (z := z) (k := k) hk p
    have D0 : Hid (z.drop 0 = z) := rfl
    have DN : Hid (z.drop z.length = []) := List.drop_length
    have HM := Lib.hid hm
    clear h hc hx hm
    generalize atOf z = f at *
    generalize txOf z = g at *
    go_enter Tryd.func15, Tryd.ntmps15
    go_wp2_with fail
    go_loopw [4, 12] (fun s4 i wr => ∃ (k : Nat) (p : Int), k ≤ z.length ∧ s4 = .int .i64 p ∧ i = .int .i64 (k : Int) ∧ fit 0 z = fit p (z.drop k) ∧ lastAt 0 z = lastAt p (z.drop k) ∧ Below w.heap.size w wr) (fun _ i _ => z.length - (intOf i).toNat)
    case atStart => exact ⟨0, 0, Nat.zero_le _, rfl, rfl, by rw [D0.out], by rw [D0.out], Below.refl _ _⟩
    case round =>
      obtain ⟨k, p, hk, rfl, rfl, q1, q2, q3⟩ := hrel
      have Q1 := Lib.hid q1; have Q2 := Lib.hid q2; have Q3 := Lib.hid q3; clear q1 q2 q3
      by_cases hk2 : k < z.length
      · obtain ⟨c1, c2⟩ := HC.out wr Q3.out k hk2
        have BA : Hid (∀ o, Below w.heap.size w (wr.alloc o)) := fun o => Q3.out.alloc Q3.out.size o
        have F := Lib.hid (FS.out k hk2 p)
        by_cases hle : f k ≤ p
        · have t1 : decide (f k ≤ p) = true := decide_eq_true hle
          have R3 : Hid (printR z = ([], 3)) := Lib.hid (printR_3 (by rw [Q1.out, F.out, decide_eq_false (show ¬ p < f k by omega)]; rfl))
          clear hle
          go_wp2
          go_ret2
          unfold PPost; rw [R3.out]
          exact ⟨rfl, BA.out _⟩
        · have t1 : decide (f k ≤ p) = false := decide_eq_false hle
          rw [decide_eq_true (show p < f k by omega)] at F
          clear hle
          have ST := Lib.hid (stay_new wr (.int .i64 (f k)) (.string (bs (g k))))
          have SV : Hid (∀ W, MX W → Calls Tryd.prog 34 #[.string (bs (g k))] W fun e w' => e = .returned (.bool (surv (g k))) ∧ Below W.heap.size W w') := fun W hW => surv_any (g k) W (HX.out k hk2) hW
          have MA : Hid (∀ o, MX (wr.alloc o)) := fun o => HM.out.later (BA.out o)
          go_wp2_with fail
          refine (SV.out _ (MA.out _)).mono ?_
          rintro e w2 ⟨rfl, q⟩
          have S2 := Lib.hid (ST.out.later q)
          have B2 := Lib.hid ((BA.out _).trans (q.mono (BA.out _).size)); clear q
          cases hs : surv (g k) with
          | false =>
            have R3 : Hid (printR z = ([], 3)) := Lib.hid (printR_3 (by rw [Q1.out, F.out, hs]; rfl))
            clear hs
            go_wp2
            go_ret2
            unfold PPost; rw [R3.out]
            exact ⟨rfl, B2.out⟩
          | true =>
            rw [hs] at F
            clear hs
            obtain ⟨d1, d2⟩ := S2.out.cells
            go_wp2
            go_roundw
            case rel =>
              refine ⟨k + 1, f k, by omega, rfl, by go_num, ?_, ?_, B2.out⟩
              · rw [Q1.out, F.out]; rfl
              · rw [Q2.out, LS.out k hk2]
            case measure => simp [intOf]; omega
      · obtain rfl : k = z.length := by omega
        have FT : Hid (fit 0 z = true) := Lib.hid (by rw [Q1.out, DN.out]; rfl)
        have LP : Hid (lastAt 0 z = p) := Lib.hid (by rw [Q2.out, DN.out]; rfl)
        clear Q1 Q2
        by_cases hp : 20000 < p
        · have R2 := Lib.hid (printR_2 FT.out (by rw [LP.out]; exact hp))
          go_wp2
          go_ret2
          unfold PPost; rw [R2.out]
          exact ⟨rfl, Q3.out⟩
        · have NL : Hid (¬ 20000 < lastAt 0 z) := Lib.hid (by rw [LP.out]; exact hp)
          have NB := Lib.hid (bd_new wr)
          have BA : Hid (∀ o, Below wr.heap.size wr (wr.alloc o)) := fun o => (Below.refl _ wr).alloc (Nat.le_refl _) o
          have FL : Hid (∀ k, k < z.length → ∀ p, fit p (z.drop k) = true → lastAt 0 z = lastAt p (z.drop k) → p < f k ∧ f k ≤ 20000 ∧ surv (g k) = true ∧ fit (f k) (z.drop (k + 1)) = true ∧ lastAt 0 z = lastAt (f k) (z.drop (k + 1))) := fun k hk p hf hl => by
            rw [FS.out k hk, Bool.and_eq_true, Bool.and_eq_true, decide_eq_true_iff] at hf
            rw [LS.out k hk] at hl
            have := fit_le _ _ hf.2
            have := NL.out
            refine ⟨hf.1.1, by omega, hf.1.2, hf.2, hl⟩
          have FT0 : Hid (fit 0 (z.drop 0) = true) := Lib.hid (by rw [D0.out]; exact FT.out)
          have MW := Lib.hid (HM.out.later Q3.out)
          have NLp : Hid (¬ 20000 < lastAt 0 z) := NL
          clear FS LS LP hk hk2 NL
          go_wp2_with fail
          clear hp
          rename World => w1
          go_loopw [4, 33] (fun s4 i wl => ∃ (k : Nat) (p : Int) (out : Str), k ≤ z.length ∧ s4 = .int .i64 p ∧ i = .int .i64 (k : Int) ∧ 0 ≤ p ∧ body 0 z = out ++ body p (z.drop k) ∧ fit p (z.drop k) = true ∧ lastAt 0 z = lastAt p (z.drop k) ∧ out.length ≤ 20000 ∧ Bd w1.heap.size w1.heap.size out wl ∧ Below w1.heap.size w1 wl) (fun _ i _ => z.length - (intOf i).toNat)
          case atStart => exact ⟨0, 0, [], Nat.zero_le _, rfl, rfl, Int.le_refl _, by rw [D0.out]; rfl, FT0.out, by rw [D0.out], Nat.zero_le _, NB.out, BA.out _⟩
          case round =>
            obtain ⟨k, p, out, hk, rfl, rfl, hp0, q1, q2, q3, hol, q4, q5⟩ := hrel
            have Q1 := Lib.hid q1; have Q2 := Lib.hid q2; have Q3' := Lib.hid q3; have Q4 := Lib.hid q4; have Q5 := Lib.hid q5; clear q1 q2 q3 q4 q5
            have WB : Hid (Below w.heap.size w wr) := Q3.out.trans (Q5.out.mono Q3.out.size)
            by_cases hk2 : k < z.length
            · obtain ⟨c1, c2⟩ := HC.out wr WB.out k hk2
              obtain ⟨f1, f2, f3, f4, f5⟩ := FL.out k hk2 p Q2.out Q3'.out
              obtain ⟨_, _, _, _, s5, _⟩ := surv_facts f3
              have F4 := Lib.hid f4; have F5 := Lib.hid f5; clear f3 f4 f5
              obtain ⟨n, hn1⟩ : ∃ n : Nat, f k - p - 1 = n := ⟨(f k - p - 1).toNat, by omega⟩
              have BK := Lib.hid (BS.out k hk2 p)
              rw [hn1, Int.toNat_natCast] at BK
              have RP : Hid (∀ W, Calls Tryd.prog 36 #[.string (ByteArray.mk #[10]), .int .i64 (f k - p - 1)] W fun e w' => e = .returned (.string (bs (List.replicate n 10))) ∧ Below W.heap.size W w') := fun W => rep_nl n _ hn1 W (by omega)
              have hn2 : n ≤ 20000 := by omega
              clear hn1
              have BA' : Hid (∀ o, Below w1.heap.size w1 (wr.alloc o)) := fun o => Q5.out.trans ((Below.refl _ wr).alloc Q5.out.size o)
              have QA : Hid (∀ o, Bd w1.heap.size w1.heap.size out (wr.alloc o)) := fun o => Q4.out.later ((Below.refl _ wr).alloc (Nat.le_refl _) o)
              have NE : Hid (wr.heap.size ≠ w1.heap.size) := Lib.hid (by have := Q4.out.lt; omega)
              have SA := Lib.hid (stay_new wr (.int .i64 (f k)) (.string (bs (g k))))
              have QC : Hid (∀ W, MX W → Calls Tryd.prog 37 #[.string (bs (g k))] W fun e w' => e = .returned (.string (bs (esc (g k)))) ∧ Below W.heap.size W w') := fun W hW => quoted_any (g k) W (HX.out k hk2) hW
              have hi1 : -9223372036854775808 ≤ f k - p := by omega
              have hi2 : f k - p ≤ 9223372036854775807 := by omega
              go_wp2_with fail
              refine (RP.out _).mono ?_
              rintro e wB ⟨rfl, q⟩
              have B1 := Lib.hid ((BA'.out _).trans (q.mono (BA'.out _).size))
              have D1 := Lib.hid ((QA.out _).later q)
              have S1 := Lib.hid (SA.out.later q); clear q
              clear hi1 hi2
              go_wp2_with fail
              refine (wStrK _ _ out (List.replicate n 10) _ D1.out (by simp; omega) B1.out.size).mono ?_
              rintro e wC ⟨⟨r1, rfl⟩, q1, q2, q3⟩
              have B2 := Lib.hid (B1.out.trans q2)
              have D2 := Lib.hid q1
              have S2 := Lib.hid (S1.out.kept q3 NE.out); clear q1 q2 q3
              have M2 := Lib.hid (MW.out.later B2.out)
              obtain ⟨e1, e2⟩ := S2.out.cells
              go_wp2_with fail
              refine (QC.out _ M2.out).mono ?_
              rintro e wD ⟨rfl, q⟩
              have B3 := Lib.hid (B2.out.trans (q.mono B2.out.size))
              have D3 := Lib.hid (D2.out.later q)
              have S3 := Lib.hid (S2.out.later q); clear q e1 e2
              go_wp2_with fail
              refine (wStrK _ _ (out ++ List.replicate n 10) (esc (g k)) _ D3.out (by simp; omega) B3.out.size).mono ?_
              rintro e wE ⟨⟨r2, rfl⟩, q1, q2, q3⟩
              have B4 := Lib.hid (B3.out.trans q2)
              have D4 := Lib.hid q1
              have S4 := Lib.hid (S3.out.kept q3 NE.out); clear q1 q2 q3
              go_wp2_with fail
              refine (wByteK _ _ (out ++ List.replicate n 10 ++ esc (g k)) 10 10 rfl _ D4.out (by simp; omega) B4.out.size).mono ?_
              rintro e wF ⟨rfl, q1, q2, q3⟩
              have B5 := Lib.hid (B4.out.trans q2)
              have D5 := Lib.hid q1
              have S5 := Lib.hid (S4.out.kept q3 NE.out); clear q1 q2 q3
              go_wp2_with fail
              refine (bLen _ _ _ _ D5.out).mono ?_
              rintro e wG ⟨rfl, rfl⟩
              have OB : Hid (body 0 z = (out ++ List.replicate n 10 ++ esc (g k) ++ [10]) ++ body (f k) (z.drop (k + 1))) := Lib.hid (by rw [Q1.out, BK.out]; simp)
              obtain ⟨e1, e2⟩ := S5.out.cells
              generalize out ++ List.replicate n 10 ++ esc (g k) ++ [10] = out2 at *
              by_cases ho : 20000 < out2.length
              · have R2 : Hid (printR z = ([], 2)) := Lib.hid (printR_2' FT.out (by have := NLp.out; omega) (by rw [OB.out, List.length_append]; omega))
                go_wp2
                go_ret2
                unfold PPost; rw [R2.out]
                exact ⟨rfl, Q3.out.trans (B5.out.mono Q3.out.size)⟩
              · go_wp2
                go_roundw
                case rel =>
                  exact ⟨k + 1, f k, out2, by omega, rfl, by go_num, by omega, OB.out, F4.out, F5.out, by omega, D5.out, B5.out⟩
                case measure => simp [intOf]; omega
            · obtain rfl : k = z.length := by omega
              have OB : Hid (body 0 z = out) := Lib.hid (by rw [Q1.out, DN.out]; simp [body])
              have R0 : Hid (printR z = (out, 0)) := Lib.hid (by rw [printR_0 FT.out (by have := NLp.out; omega) (by rw [OB.out]; exact hol), OB.out])
              go_wp2_with fail
              refine (bStr _ _ out _ Q4.out Q5.out.size).mono ?_
              rintro e w' ⟨rfl, q⟩
              have B := Lib.hid (Q5.out.trans q); clear q
              go_wp2
              go_ret2
              unfold PPost; rw [R0.out]
              exact ⟨rfl, Q3.out.trans (B.out.mono Q3.out.size)⟩
end Go.Proofs.YtnfjcclblggbiaaDoor
