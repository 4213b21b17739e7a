/-
  The law DomTells where the root has a row, and whole. Condition: the table of math/bits lies in memory as its text lays it (the card ties this).
-/
import Derived.Test.YtjmomgmbmgdeoaaDoorHDf
namespace Go.Proofs.YtjmomgmbmgdeoaaDoor
set_option maxRecDepth 100000
set_option linter.unusedVariables false
open Go.ChangeShapes Go.WideShapes Go.ChangeAt Go.RowKit

theorem tells_ruling {w : World} {v : Value} {r : List Bv} {p : Nat} (h : WIn w v r) (hr : RowsIn r) (hp : p < r.length) : ∀ W n, Below w.heap.size w W → n < r.length → Calls Tryd.prog 12 #[v, .int .i64 (p : Int), .int .i64 (n : Int)] W fun e w' =>
    ∃ a c, e = .returned (.slice a (overR r p n).length c) ∧ NI w' (.slice a (overR r p n).length c) (overR r p n) ∧ Below W.heap.size W w' := fun W n hW hn =>
  (ruling_any (h.later hW) hr hp hn).mono fun _ _ ⟨u, h1, h2, h3⟩ => by
    obtain ⟨a, c, rfl, hc⟩ := h2.ni
    exact ⟨a, c, h1, ⟨a, c, rfl, hc⟩, h3⟩
theorem ZIn.at' {w : World} {a : Option Addr} {n c : Nat} {l : List Int} (h : ZIn w (.slice a n c) l) {k : Nat} (hk : k < n) : ∃ b off, a = some ⟨b, off, none⟩ ∧ w.cell? ⟨b, off + k, none⟩ = some (.int .i64 (l.getD k 0)) := by
  obtain ⟨a', c', e, hc⟩ := h
  simp only [Value.slice.injEq] at e
  obtain ⟨rfl, rfl, rfl⟩ := e
  exact hc k hk
set_option maxHeartbeats 4000000 in
theorem domTells_good {w : World} {v : Value} {r : List Bv} {p : Nat} (a b : Int) (h : WIn w v r) (ht : Tab w) (hr : RowsIn r) (hp : p < r.length) :
    Calls Tryd.prog 3 #[v, .int .i64 (p : Int), .int .i64 a, .int .i64 b] w fun e w' => e = .returned (.bool true) ∧ Below w.heap.size w w' := by
  have hl := hr.len
  have hc : rangeC r [(p : Int)] = 0 := range_zero.2 ⟨hr, fun n hn => by obtain rfl := List.mem_singleton.1 hn; omega⟩
  have hck := ckR_rows hr
  have DO := Lib.hid (tells_doms (p : Int) h ht)
  have OV := Lib.hid (tells_over (p : Int) b h ht)
  have RU : Hid (∀ W, Below w.heap.size w W → Calls Tryd.prog 9 #[v, .int .i64 (p : Int), .int .i64 a, .int .i64 b] W fun e w' => e = .returned (.tuple #[.bool (rulesA r p a b), .int .i64 (rangeC r [(p : Int), a, b])]) ∧ Below W.heap.size W w') := fun W hW => rulesP_any (p : Int) a b (h.later hW) (ht.below hW ht.1)
  have RF := Lib.hid (tells_fault h)
  have RL := Lib.hid (tells_ruling h hr hp)
  have D0 : (domsA r p).length = r.length := by rw [domsA_ok hc, idomL_length]
  have DN : Hid (∀ n, n < r.length → (domsA r p).getD n 0 = idomR r p n) := fun n hn => by rw [domsA_ok hc]; exact idomL_at hn
  have IM := Lib.hid (fun k (h : 1 < (overR r p k).length) => idom_more (n := k) hr hp h)
  have IF := Lib.hid (fun k (h : ¬ 1 < (overR r p k).length) => idom_few (n := k) hr hp h)
  have OL := Lib.hid (fun k => overR_len hr hp k)
  have BADB : Hid (rangeC r [b] ≠ 0 → rangeC r [(p : Int), b] = rangeC r [b] ∧ rangeC r [(p : Int), a, b] = rangeC r [b] ∧ (overA r p b).length = 0 ∧ rulesA r p a b = false) := fun hb => by
    have e1 : rangeC r [(p : Int), b] = rangeC r [b] := range_sub (by simp) hb
    have e2 : rangeC r [(p : Int), a, b] = rangeC r [b] := range_sub (by simp) hb
    exact ⟨e1, e2, by rw [overA_bad (by rw [e1]; exact hb)]; rfl, rulesA_bad (by rw [e2]; exact hb)⟩
  have OKB : Hid (rangeC r [b] = 0 → ∃ m : Nat, b = (m : Int) ∧ m < r.length ∧ rangeC r [(p : Int), b] = 0 ∧ overA r p b = overR r p m ∧
      (rangeC r [a] ≠ 0 → rangeC r [(p : Int), a, b] = rangeC r [a] ∧ rulesA r p a b = false) ∧
      (rangeC r [a] = 0 → ∃ k : Nat, a = (k : Int) ∧ k < r.length ∧ rangeC r [(p : Int), a, b] = 0 ∧ (domS r p m).getLsbD k = rulesA r p a b)) := fun hb => by
    obtain ⟨_, m, rfl, hm⟩ := range_one hb
    have e1 : rangeC r [(p : Int), (m : Int)] = 0 := range_zero.2 ⟨hr, fun n hn => by
      rcases List.mem_cons.1 hn with rfl | hn
      · omega
      · obtain rfl := List.mem_singleton.1 hn; omega⟩
    refine ⟨m, rfl, hm, e1, by rw [overA_ok e1]; simp, fun ha => ?_, fun ha => ?_⟩
    · have e2 : rangeC r [(p : Int), a, (m : Int)] = rangeC r [a] := range_sub (by simp) ha
      exact ⟨e2, rulesA_bad (by rw [e2]; exact ha)⟩
    · obtain ⟨_, k, rfl, hk⟩ := range_one ha
      have e2 : rangeC r [(p : Int), (k : Int), (m : Int)] = 0 := range_zero.2 ⟨hr, fun n hn => by
        rcases List.mem_cons.1 hn with rfl | hn
        · omega
        · rcases List.mem_cons.1 hn with rfl | hn
          · omega
          · obtain rfl := List.mem_singleton.1 hn; omega⟩
      exact ⟨k, rfl, hk, e2, by rw [Bool.eq_iff_iff, domS_bit hr hp, rulesA_ok e2]⟩
  have RB : Hid (∀ W m, Below w.heap.size w W → m < r.length → Calls Tryd.prog 15 #[v, .int .i64 (p : Int), .int .i64 (m : Int)] W fun e w' => e = .returned (.int .u64 ((domS r p m).toNat : Int)) ∧ Below W.heap.size W w') := fun W m hW hm => ruledBy_any (h.later hW) hr hp hm
  have IQ : Hid (∀ m k W, k < r.length → Calls Tryd.prog 14 #[.int .u64 ((domS r p m).toNat : Int), .int .i64 (k : Int)] W fun e w' => e = .returned (.bool ((domS r p m).getLsbD k)) ∧ w' = W) := fun m k W hk => in_q (domS r p m) k W (by omega) _ rfl
  have EQ : Hid (∀ W m (v1 v2 : Value), NI W v1 (overR r p m) → NI W v2 (overR r p m) → Calls Tryd.prog 13 #[v1, v2] W fun e w' => e = .returned (.bool true) ∧ Below W.heap.size W w') := fun W m v1 v2 h1 h2 =>
    (equalI_same h1 h2 (Nat.le_trans (overR_len hr hp m) hl)).mono fun e w' ⟨e1, q, e2⟩ => ⟨e1, by rw [e2]; exact below_drewN (Below.refl _ _) q⟩
  have RG := Lib.hid (fun W x a' c' q1 q2 n hn h1 h2 t => tells_ranged (W := W) (r := r) (a := a') (c := c') (q1 := q1) (q2 := q2) (n := n) hn h1 h2 x t)
  have RG0 := Lib.hid (fun W a' c' q1 q2 n hn h1 h2 t => RG.out W (p : Int) a' c' q1 q2 n hn h1 h2 t)
  rw [hc] at RG0
  rw [hc, D0] at DO
  rw [hck] at RF RG RG0
  have BX : Hid (∀ T, Blk w.heap.size #[v] T (w.alloc (.cells #[v] T))) := fun T => blk_new w #[v] T
  have BA : Hid (∀ T, Below w.heap.size w (w.alloc (.cells #[v] T)) ∧ (w.alloc (.cells #[v] T)).heap.size = w.heap.size + 1) := fun T => ⟨below_al w _, by simp⟩
  have nL := neD_same (r.length : Int)
  obtain ⟨sa, sc, rfl, _⟩ := h
  have RGa := Lib.hid (fun W q1 q2 n hn h1 h2 t => RG.out W a sa sc q1 q2 n hn h1 h2 t)
  have RGb := Lib.hid (fun W q1 q2 n hn h1 h2 t => RG.out W b sa sc q1 q2 n hn h1 h2 t)
  have RGo := Lib.hid (fun W q1 q2 n hn h1 h2 t => RG0.out W sa sc q1 q2 n hn h1 h2 t)
  clear ht hc hck D0 RG RG0 hr
  generalize rangeC r [b] = Cb at *
  generalize rangeC r [a] = Ca at *
  generalize rangeC r [(p : Int), b] = C2 at *
  generalize rangeC r [(p : Int), a, b] = C3 at *
  generalize rulesA r p a b = R at *
  generalize domsA r p = D at *
  generalize overA r p b = P at *
  generalize hL : r.length = L at *
  clear hL
  have en := Tryd.call11
  go_enter Tryd.func3, Tryd.ntmps3
  go_wp2_with fail
  obtain ⟨bA, sA⟩ := BA.out 22
  have B1 := Lib.hid bA; have K1 : Hid (World.cell? (w.alloc (.cells #[Value.slice sa L sc] 22)) ⟨w.heap.size, 0, none⟩ = some (Value.slice sa L sc)) := Lib.hid ((BX.out 22).cell (i := 0) rfl)
  clear bA sA BA BX
  generalize w.alloc (.cells #[Value.slice sa L sc] 22) = w1 at *
  refine (DO.out _ B1.out).mono ?_
  rintro e w2 ⟨a2, c2, rfl, z2, b2⟩
  have Z2 := Lib.hid z2
  have B2 := Lib.hid (B1.out.trans (b2.mono B1.out.size)); have k2 := cell_later b2 K1.out; have K2 := Lib.hid k2; clear b2 DO B1 K1 z2
  go_wp2_with fail
  refine (OV.out _ B2.out).mono ?_
  rintro e w3 ⟨a3, c3, rfl, n3, b3⟩
  clear k2
  have Z3 := Lib.hid (Z2.out.later b3); have N3 := Lib.hid n3
  have B3 := Lib.hid (B2.out.trans (b3.mono B2.out.size)); have k3 := cell_later b3 K2.out; have K3 := Lib.hid k3; clear b3 OV B2 K2 Z2 n3
  go_wp2_with fail
  refine (RU.out _ B3.out).mono ?_
  rintro e w4 ⟨rfl, b4⟩
  clear k3
  have Z4 := Lib.hid (Z3.out.later b4); have N4 := Lib.hid (N3.out.later b4)
  have B4 := Lib.hid (B3.out.trans (b4.mono B3.out.size)); have k4 := cell_later b4 K3.out; have K4 := Lib.hid k4; clear b4 RU B3 K3 Z3 N3
  go_wp2_with fail
  refine (RF.out _ B4.out).mono ?_
  rintro e w5 ⟨rfl, b5⟩
  clear k4
  have Z5 := Lib.hid (Z4.out.later b5); have N5 := Lib.hid (N4.out.later b5)
  have B5 := Lib.hid (B4.out.trans (b5.mono B4.out.size)); have K5 := Lib.hid (cell_later b5 K4.out); clear b5 RF B4 K4 Z4 N4
  have BY : Hid (∀ T, (w5.alloc (.cells #[.int .i64 0] T)).cell? ⟨w5.heap.size, 0, none⟩ = some (.int .i64 0) ∧ Below w5.heap.size w5 (w5.alloc (.cells #[.int .i64 0] T)) ∧ (w5.alloc (.cells #[.int .i64 0] T)).heap.size = w5.heap.size + 1) := fun T => ⟨(blk_new w5 _ T).cell (i := 0) rfl, below_al w5 _, by simp⟩
  go_wp2_with fail
  obtain ⟨k6, b6, s6⟩ := BY.out 24
  have j6 := cell_later b6 K5.out
  have Z6 := Lib.hid (Z5.out.later b6); have N6 := Lib.hid (N5.out.later b6)
  have B6 := Lib.hid (B5.out.trans (b6.mono B5.out.size))
  clear b6 B5 K5 BY Z5 N5
  generalize w5.alloc (.cells #[Value.int .i64 0] 24) = w6 at *
  refine (RGo.out w6 w5.heap.size w.heap.size _ s6 k6 j6 _).mono ?_
  rintro e w7 ⟨rfl, b7⟩
  have B7 := Lib.hid (B6.out.trans (b7.mono B6.out.size))
  have Z7 := Lib.hid (Z6.out.later b7); have N7 := Lib.hid (N6.out.later b7)
  have k7 := cell_later b7 k6; have j7 := cell_later b7 j6
  clear b7 B6 RGo k6 j6 s6 Z6 N6
  generalize w5.heap.size = q1 at *
  have K7 := Lib.hid k7; have J7 := Lib.hid j7
  clear k7
  by_cases h12 : (12 : Int) < (L : Int)
  · go_wp2
    go_ret
    exact ⟨rfl, B7.out⟩
  · go_wp2_with fail
    clear j7
    go_loopw [94] (fun i wr => ∃ n : Nat, n ≤ L ∧ i = .int .i64 (n : Int) ∧ Below w7.heap.size w7 wr) (fun i _ => L - (intOf i).toNat)
    case atStart => exact ⟨0, Nat.zero_le _, rfl, Below.refl _ _⟩
    case round =>
      obtain ⟨n, hn, rfl, qb⟩ := hrel
      have QB := Lib.hid qb; clear qb
      rename World => wr
      have j8 := cell_later QB.out J7.out
      by_cases hnL : n < L
      · have R1 := Lib.hid (RL.out wr n (B7.out.trans (QB.out.mono B7.out.size)) hnL)
        have dn := DN.out n hnL
        have V1 := Lib.hid (IM.out n); have V2 := Lib.hid (IF.out n); have v3 := OL.out n
        clear DN IM IF RL OKB BADB RB IQ EQ RGa RGb K7 J7 N7
        go_wp2_with fail
        refine R1.out.mono ?_
        rintro e w8 ⟨xa, xc, rfl, xi, b8⟩
        have B8 := Lib.hid (QB.out.trans (b8.mono QB.out.size))
        have XI := Lib.hid xi
        obtain ⟨db, dof, rfl, cd⟩ := ZIn.at' (Z7.out.later B8.out) hnL
        rw [dn] at cd
        clear b8 xi R1 dn Z7 j8
        generalize overR r p n = ov at *
        have iL : (n : Int) < (L : Int) := by omega
        by_cases h1 : 1 < ov.length
        · have EV := V1.out h1
          obtain ⟨m, hm⟩ : ∃ m, ov.length = m + 2 := ⟨ov.length - 2, by omega⟩
          obtain ⟨xb, xo, rfl, c5⟩ := NI.at' XI.out (k := m) (by omega)
          rw [show ov.length - 2 = m by omega] at EV
          have c6 : w8.cell? ⟨xb, xo + m, none⟩ = some (.int .i64 (idomR r p n)) := by rw [c5, EV]; rfl
          have e1 : (ov.length : Int) - 2 = (m : Int) := by omega
          have e2 : (m : Int) < (ov.length : Int) := by omega
          have e3 : (1 : Int) < (ov.length : Int) := by omega
          have e4 := neD_same (idomR r p n)
          clear EV c5 V1 V2 hm h1 XI
          generalize idomR r p n = z at *
          generalize ov.length = M at *
          go_wp2
          go_roundw
          case rel => exact ⟨n + 1, by omega, by go_num, B8.out⟩
          case measure => simp [intOf]; omega
        · have EV := V2.out h1
          rw [EV] at cd
          have e3 : ¬ (1 : Int) < (ov.length : Int) := by omega
          clear EV V1 V2 h1 XI
          generalize ov.length = M at *
          go_wp2
          go_roundw
          case rel => exact ⟨n + 1, by omega, by go_num, B8.out⟩
          case measure => simp [intOf]; omega
      · obtain rfl : n = L := by omega
        have k8 := cell_later QB.out K7.out
        have G1 := Lib.hid (RGb.out wr q1 w.heap.size _ rfl k8 j8)
        have B8 := Lib.hid (B7.out.trans (QB.out.mono B7.out.size))
        have N8 := Lib.hid (N7.out.later QB.out)
        have K8 := Lib.hid k8; have J8 := Lib.hid j8
        clear k8 j8 K7 J7 Z7 N7 DN IM IF RGb QB B7
        go_wp2_with fail
        refine (G1.out _).mono ?_
        rintro e w9 ⟨rfl, b9⟩
        have B9 := Lib.hid (B8.out.trans (b9.mono B8.out.size))
        have N9 := Lib.hid (N8.out.later b9)
        have K9 := Lib.hid (cell_later b9 K8.out); have j9 := cell_later b9 J8.out
        have J9 := Lib.hid j9
        clear b9 G1 B8 N8 K8 J8
        by_cases hb : Cb = 0
        · obtain ⟨m, rfl, hm, rfl, rfl, xa, xb⟩ := OKB.out hb
          have XA := Lib.hid xa; have XB := Lib.hid xb
          subst hb
          clear xa xb OKB BADB
          have R9 := Lib.hid (RL.out w9 m B9.out hm)
          have EQm := Lib.hid (fun W v1 v2 => EQ.out W m v1 v2)
          have RBm := Lib.hid (fun W hW => RB.out W m hW hm)
          have IQm := Lib.hid (fun k W hk => IQ.out m k W hk)
          clear RL EQ RB IQ OL
          generalize domS r p m = S at *
          generalize overR r p m = ov at *
          generalize ov.length = M at *
          go_wp2_with fail
          refine R9.out.mono ?_
          rintro e w10 ⟨xa, xc, rfl, xi, b10⟩
          have Q10 := Lib.hid (EQm.out w10 _ _ (N9.out.later b10) xi)
          have B10 := Lib.hid (B9.out.trans (b10.mono B9.out.size))
          have K10 := Lib.hid (cell_later b10 K9.out); have J10 := Lib.hid (cell_later b10 J9.out)
          clear b10 xi EQm R9 B9 K9 J9 j9 N9
          go_wp2_with fail
          refine Q10.out.mono ?_
          rintro e w11 ⟨rfl, b11⟩
          have B11 := Lib.hid (B10.out.trans (b11.mono B10.out.size))
          have k11 := cell_later b11 K10.out; have j11 := cell_later b11 J10.out
          have G2 := Lib.hid (RGa.out w11 q1 w.heap.size _ rfl k11 j11)
          have J11 := Lib.hid j11
          clear b11 Q10 B10 K10 J10 k11 j11 RGa
          go_wp2_with fail
          refine (G2.out _).mono ?_
          rintro e w12 ⟨rfl, b12⟩
          have B12 := Lib.hid (B11.out.trans (b12.mono B11.out.size))
          have j12 := cell_later b12 J11.out
          clear b12 G2 B11 J11
          by_cases ha : Ca = 0
          · obtain ⟨k, rfl, hk, rfl, hR⟩ := XB.out ha
            have R12 := Lib.hid (RBm.out w12 B12.out)
            have I12 := Lib.hid (fun W => IQm.out k W hk)
            rw [hR] at I12
            have t3 : (R == R) = true := by cases R <;> rfl
            subst ha
            clear XA XB RBm IQm hR
            generalize S.toNat = sn at *
            go_wp2_with fail
            refine R12.out.mono ?_
            rintro e w13 ⟨rfl, b13⟩
            have B13 := Lib.hid (B12.out.trans (b13.mono B12.out.size))
            clear b13 R12 B12 j12
            go_wp2_with fail
            refine (I12.out _).mono ?_
            rintro e w14 ⟨rfl, rfl⟩
            go_wp2
            go_ret
            exact ⟨rfl, B13.out⟩
          · have t1 := zero_ne ha; have t2 := eqD_same Ca
            obtain ⟨rfl, rfl⟩ := XA.out ha
            clear XA XB RBm IQm j12
            go_wp2
            go_ret
            exact ⟨rfl, B12.out⟩
        · have t1 := zero_ne hb; have t2 := eqD_same Cb
          obtain ⟨rfl, rfl, hP, rfl⟩ := BADB.out hb
          clear N9 OKB BADB j9
          generalize P.length = PL at *
          subst hP
          go_wp2
          go_ret
          exact ⟨rfl, B9.out⟩
theorem domTells_any {w : World} {v : Value} {r : List Bv} (o a b : Int) (h : WIn w v r) (ht : Tab w) :
    Calls Tryd.prog 3 #[v, .int .i64 o, .int .i64 a, .int .i64 b] w fun e w' => e = .returned (.bool true) ∧ Below w.heap.size w w' := by
  by_cases hc : rangeC r [o] = 0
  · obtain ⟨hr, p, rfl, hp⟩ := range_one hc
    exact domTells_good a b h ht hr hp
  · exact domTells_bad o a b h ht hc
end Go.Proofs.YtjmomgmbmgdeoaaDoor
