/-
  Package file's Load; slices.ContainsFunc at texts with the law's test. Condition: the texts' strings have lengths that are ints.
-/
import Derived.Test.YtfgcbdjkimkgpaaGreatDoorCards
import Derived.Test.YtfgcbdjkimkgpaaGreatDoorTie
import Derived.Test.YtfgcbdjkimkgpaaGreatDoorGc25LCard
import Derived.Test.YtfgcbdjkimkgpaaGreatDoorGc26FEq
import Derived.Test.YtfgcbdjkimkgpaaGreatDoorGc27FLs
import Derived.Test.YtfgcbdjkimkgpaaGreatDoorGc28FPn
import Derived.Test.YtfgcbdjkimkgpaaGreatDoorFLr
import Derived.Test.YtfgcbdjkimkgpaaGreatDoorFRs4
namespace Go.Proofs.YtfgcbdjkimkgpaaGreatDoor
set_option maxRecDepth 100000
set_option linter.unusedVariables false
open Go.ChangeShapes Go.WideShapes Go.ChangeAt Go.RowKit

def big4 (m : Mc) : Bool := decide (400 < m.2.length)
theorem any_takeM {z : List Mc} {f : Mc → Bool} {k : Nat} (h : k < z.length) : (z.take (k + 1)).any f = ((z.take k).any f || f (nm z k, vl z k)) := by
  rw [List.take_add_one, at_some h, List.any_append]; simp
theorem entT : ∀ (args : Array Value) (w : World), Sem.run Tryz.prog (callFunc 10 args) w = .ok (.enter 10 args) w := Tryz.call10
theorem big_any (a b : Str) (w : World) : Calls Tryz.prog 10 #[.agg #[.string (bs a), .string (bs b)]] w fun e w' => e = .returned (.bool (big4 (a, b))) ∧ Below w.heap.size w w' := by
  have BA : Hid (Below w.heap.size w (w.alloc (.cells #[.string (bs a), .string (bs b)] 25))) := (Below.refl _ _).alloc (Nat.le_refl _) _
  have sz : (bs b).size = b.length := bs_size _
  have e1 : decide ((400 : Int) < (b.length : Int)) = big4 (a, b) := by
    show _ = decide (400 < b.length)
    exact decide_eq_decide.2 (by omega)
  generalize b.length = n at *
  generalize big4 (a, b) = t at *
  go_enter Tryz.func10, Tryz.ntmps10
  go_wp2
  go_ret
  exact ⟨by first | rfl | (rw [← e1]; rfl) | (rw [e1]; rfl), BA.out⟩
set_option maxHeartbeats 1000000 in
theorem tindex_any {z : List Mc} {v : Value} {w : World} (h : McIn w v z) :
    Calls Tryz.prog 35 #[v, .func (.func 10) #[] #[]] w fun e w' =>
      ((e = .returned (.int .i64 (-1)) ∧ z.any big4 = false) ∨ ((∃ k : Nat, e = .returned (.int .i64 (k : Int))) ∧ z.any big4 = true)) ∧ Below w.heap.size w w' := by
  have HL := Lib.hid h.bound
  have HT : Hid (∀ a b W, Calls Tryz.prog 10 #[.agg #[.string (bs a), .string (bs b)]] W fun e w' => e = .returned (.bool (big4 (a, b))) ∧ Below W.heap.size W w') := big_any
  have HC : Hid (∀ W, Below w.heap.size w W → McIn W v z) := fun W hW => h.later hW
  have AE : Hid ((z.take z.length).any big4 = z.any big4) := Lib.hid (by rw [List.take_length])
  obtain ⟨a, cap, rfl⟩ := h.shape
  clear h
  go_enter Tryz.func35, Tryz.ntmps35
  go_wp2_with fail
  go_loopw [8] (fun i wr => ∃ k : Nat, k ≤ z.length ∧ i = .int .i64 k ∧ (z.take k).any big4 = false ∧ Below w.heap.size w wr) (fun i _ => z.length - (intOf i).toNat)
  case atStart => exact ⟨0, by omega, rfl, by simp, Below.refl _ _⟩
  case round =>
    obtain ⟨k, hk, rfl, ha, qb⟩ := hrel
    have HA := Lib.hid ha; have QB := Lib.hid qb; clear ha qb
    by_cases hkl : k < z.length
    · obtain ⟨b, off, rfl, c0, c1⟩ := (HC.out wr QB.out).get hkl
      have hz := HL.out
      have e1 := Lib.hid (any_takeM (f := big4) hkl)
      have M1 := Lib.hid (mem_at hkl)
      generalize nm z k = p at *
      generalize vl z k = q at *
      have T1 := Lib.hid (HT.out p q wr)
      go_wp2_with fail
      refine T1.out.mono ?_
      rintro e w' ⟨rfl, b2⟩
      have B2 := Lib.hid (QB.out.trans (b2.mono QB.out.size)); clear b2
      cases ho : big4 (p, q)
      · have HO := Lib.hid ho; clear ho
        go_wp2
        go_roundw
        case rel => exact ⟨k + 1, by omega, by go_num, by rw [e1.out, HA.out, HO.out]; rfl, B2.out⟩
        case measure => simp [intOf]; omega
      · have HO := Lib.hid ho; clear ho
        go_wp2
        go_ret
        exact ⟨.inr ⟨⟨k, rfl⟩, List.any_eq_true.2 ⟨_, M1.out, HO.out⟩⟩, B2.out⟩
    · obtain rfl : k = z.length := by omega
      rw [AE.out] at HA
      go_wp2
      go_ret
      exact ⟨.inl ⟨rfl, HA.out⟩, QB.out⟩
theorem tcontains_any {z : List Mc} {v : Value} {w : World} (h : McIn w v z) :
    Calls Tryz.prog 9 #[v, .func (.func 10) #[] #[]] w fun e w' => e = .returned (.bool (z.any big4)) ∧ Below w.heap.size w w' := by
  have H := Lib.hid (tindex_any h)
  obtain ⟨a, cap, rfl⟩ := h.shape
  clear h
  go_enter Tryz.func9, Tryz.ntmps9
  go_wp2_with fail
  refine H.out.mono ?_
  rintro e w' ⟨⟨rfl, ha⟩ | ⟨⟨k, rfl⟩, ha⟩, hb⟩
  · have HA := Lib.hid ha; have HB := Lib.hid hb; clear ha hb
    go_wp2
    go_ret
    rw [HA.out]; exact ⟨rfl, HB.out⟩
  · have HA := Lib.hid ha; have HB := Lib.hid hb; clear ha hb
    have hk : decide ((0 : Int) ≤ (k : Int)) = true := decide_eq_true (by omega)
    go_wp2
    go_ret
    rw [HA.out]; exact ⟨rfl, HB.out⟩

/-! stores into a block of nil slices leave a file's rows -/
theorem cell_inv {k : Nat} {xs : Array Value} {t : TypeId} {w : World} (h : Blk k xs t w) {i : Nat} {x : Value} (hc : w.cell? ⟨k, i, none⟩ = some x) : xs[i]? = some x := by
  unfold Blk at h
  unfold World.cell? at hc
  simpa [h] using hc
/-- only block k may have changed -/
structure Oth (k : Nat) (w W : World) : Prop where
  size : w.heap.size ≤ W.heap.size
  blk : ∀ b, b ≠ k → W.heap[b]? = w.heap[b]?
theorem oth_set4 (w : World) (k : Nat) (u0 u1 u2 u3 : Value) : Oth k w ((((w.setCell ⟨k, 0, none⟩ u0).setCell ⟨k, 1, none⟩ u1).setCell ⟨k, 2, none⟩ u2).setCell ⟨k, 3, none⟩ u3) :=
  ⟨by simp, fun b hb => (Below.heap_setCell _ _ _ _ hb).trans ((Below.heap_setCell _ _ _ _ hb).trans ((Below.heap_setCell _ _ _ _ hb).trans (Below.heap_setCell _ _ _ _ hb)))⟩
def nil4 : Array Value := #[.slice none 0 0, .slice none 0 0, .slice none 0 0, .slice none 0 0]
theorem nil4_at {i : Nat} {x : Value} (h : nil4[i]? = some x) : x = .slice none 0 0 := by
  have := Array.mem_of_getElem? h
  simpa [nil4] using this
theorem off_blk {k : Nat} {w W : World} (hW : Oth k w W) {b j : Nat} {x : Value} (hb : b ≠ k) (hc : w.cell? ⟨b, j, none⟩ = some x) : W.cell? ⟨b, j, none⟩ = some x :=
  (World.cell?_of_block (a := ⟨b, j, none⟩) (hW.blk b hb)).trans hc
theorem off_str {k : Nat} {t : TypeId} {w W : World} (h : Blk k nil4 t w) (hW : Oth k w W) {b j : Nat} {s : ByteArray} (hc : w.cell? ⟨b, j, none⟩ = some (.string s)) : W.cell? ⟨b, j, none⟩ = some (.string s) := by
  refine off_blk hW ?_ hc
  rintro rfl
  have := nil4_at (cell_inv h hc)
  cases this
theorem sin_oth {k : Nat} {t : TypeId} {w W : World} (h : Blk k nil4 t w) (hW : Oth k w W) {v : Value} {z : List Str} (hz : SIn w v z) : SIn W v z := by
  obtain ⟨a, cap, h1, h2, h3, h4, h5⟩ := hz
  refine ⟨a, cap, h1, h2, h3, h4, ?_⟩
  rcases h5 with h5 | ⟨b, off, h5, h6, h7⟩
  · exact .inl h5
  · exact .inr ⟨b, off, h5, Nat.lt_of_lt_of_le h6 hW.size, fun j hj => off_str h hW (h7 j hj)⟩
theorem mcin_oth {k : Nat} {t : TypeId} {w W : World} (h : Blk k nil4 t w) (hW : Oth k w W) {v : Value} {z : List Mc} (hz : McIn w v z) : McIn W v z := by
  obtain ⟨a, cap, h1, h2, h3, h4, h5⟩ := hz
  refine ⟨a, cap, h1, h2, h3, h4, ?_⟩
  rcases h5 with h5 | ⟨b, off, h5, h6, h7⟩
  · exact .inl h5
  · exact .inr ⟨b, off, h5, Nat.lt_of_lt_of_le h6 hW.size, fun j x hx => ⟨off_str h hW (h7 j x hx).1, off_str h hW (h7 j x hx).2⟩⟩
theorem rin_oth {k : Nat} {t : TypeId} {w W : World} (h : Blk k nil4 t w) (hW : Oth k w W) {v : Value} {z : List Rl} (hz : RIn w v z) (hne : ∀ r ∈ z, r.1 ≠ []) : RIn W v z := by
  obtain ⟨a, cap, h1, h2, h3, h4, h5⟩ := hz
  refine ⟨a, cap, h1, h2, h3, h4, ?_⟩
  rcases h5 with h5 | ⟨b, off, h5, h6, T, U, h7⟩
  · exact .inl h5
  · by_cases h0 : z = []
    · exact .inl h0
    · have hp : 0 < z.length := List.length_pos_iff.2 h0
      have hb : b ≠ k := by
        rintro rfl
        obtain ⟨c1, _, s1, _⟩ := h7 0 hp
        have e := nil4_at (cell_inv h c1)
        rw [e] at s1
        obtain ⟨a', c', e', _⟩ := s1
        injection e' with _ e2 _
        exact hne _ (rl_mem hp) (List.length_eq_zero_iff.1 e2.symm)
      exact .inr ⟨b, off, h5, Nat.lt_of_lt_of_le h6 hW.size, T, U, fun j hj => ⟨off_blk hW hb (h7 j hj).1, off_blk hW hb (h7 j hj).2.1, sin_oth h hW (h7 j hj).2.2.1, sin_oth h hW (h7 j hj).2.2.2⟩⟩
theorem FIn.oth {k : Nat} {t : TypeId} {w W : World} (h : Blk k nil4 t w) (hW : Oth k w W) {vm vp vi vr : Value} {F : Fil} (hF : FIn w vm vp vi vr F) (hne : ∀ r ∈ F.2.2.2, r.1 ≠ []) : FIn W vm vp vi vr F :=
  ⟨mcin_oth h hW hF.mac, sin_oth h hW hF.pho, mcin_oth h hW hF.inf, rin_oth h hW hF.rul hne⟩
theorem parseF_ne (l : List Str) : ∀ r ∈ (parseF l).1.2.2.2, r.1 ≠ [] := by
  unfold parseF
  by_cases h1 : 200 < l.length
  · rw [if_pos h1]; exact fun r hr => absurd hr List.not_mem_nil
  rw [if_neg h1]
  by_cases h2 : flatE (defsR l) ≠ 0
  · rw [if_pos h2]; exact fun r hr => absurd hr List.not_mem_nil
  rw [if_neg h2]
  by_cases h3 : (goL (defsR l) 0 ([], [], []) l).2.2 ≠ 0
  · rw [if_pos h3]; exact fun r hr => absurd hr List.not_mem_nil
  rw [if_neg h3]
  have iv := goL_iv (z := defsR l) (l := l) (i := 0) (j := 0) (st := ([], [], [])) ⟨by decide, fun y hy => absurd hy List.not_mem_nil, by decide, fun y hy => absurd hy List.not_mem_nil, by decide, fun y hy => absurd hy List.not_mem_nil⟩ (by simpa using h3)
  intro r hr e
  obtain ⟨_, _, h5, _⟩ := chk_ok (iv.r2 r hr)
  rw [e] at h5
  exact absurd h5 (Nat.not_lt_zero _)

/-- Load's answer -/
noncomputable def loadR (s : Str) (T : List Mc) : Fil × Int := if (linesR s T).2 ≠ 0 then (([], [], [], []), (linesR s T).2) else ((parseF (linesR s T).1).1, (parseF (linesR s T).1).2.2)
def LdPost (s : Str) (T : List Mc) (w : World) (e : Ending) (w' : World) : Prop :=
  Below w.heap.size w w' ∧ ∃ vm vp vi vr, e = .returned (.tuple #[.agg #[vm, vp, vi, vr], .int .i64 (loadR s T).2]) ∧ FIn w' vm vp vi vr (loadR s T).1
set_option maxHeartbeats 4000000 in
theorem load_any (s : Str) (T : List Mc) (v : Value) (w : World) (hs : s.length ≤ 9223372036854775807) (h : McIn w v T) (hx : ∀ m ∈ T, m.1.length ≤ maxLen ∧ m.2.length ≤ 9223372036854775807) (hm : MX w) :
    Calls Tryz.prog 14 #[.string (bs s), v] w (LdPost s T w) := by
  have ba : Below w.heap.size w (w.alloc (.cells #[.slice none 0 0, .slice none 0 0, .slice none 0 0, .slice none 0 0] 36)) := (Below.refl _ _).alloc (Nat.le_refl _) _
  have BA := Lib.hid ba
  have R0 := Lib.hid (blk_new w #[.slice none 0 0, .slice none 0 0, .slice none 0 0, .slice none 0 0] 36)
  have FL := Lib.hid (flines_any s T v _ hs (h.later ba) hx (hm.later ba))
  have L0 : Hid ((linesR s T).2 ≠ 0 → loadR s T = (([], [], [], []), (linesR s T).2)) := fun h => by unfold loadR; rw [if_pos h]
  have L1 : Hid ((linesR s T).2 = 0 → loadR s T = ((parseF (linesR s T).1).1, (parseF (linesR s T).1).2.2)) := fun h => by unfold loadR; rw [if_neg (fun e => e h)]
  obtain ⟨a, cap, rfl⟩ := h.shape
  clear h hx hm hs ba
  go_enter Tryz.func14, Tryz.ntmps14
  go_wp2_with fail
  refine FL.out.mono ?_
  rintro e w2 ⟨b2, v2, rfl, h2, hx2, hl2⟩
  have B2 := Lib.hid (BA.out.trans (b2.mono BA.out.size))
  have R2 := Lib.hid (R0.out.later b2)
  clear FL b2 R0
  by_cases hE : (linesR s T).2 = 0
  · have LL := Lib.hid (L1.out hE)
    have PA := Lib.hid (parse_file (linesR s T).1 v2 w2 h2 (fun x hx => by have := hx2 x hx; omega))
    rw [hE]
    obtain ⟨a2, c2, rfl⟩ := h2.shape
    clear hE h2 hx2 hl2 L0 L1
    generalize (linesR s T).1 = L at *
    go_wp2_with fail
    refine PA.out.mono ?_
    rintro e w3 ⟨b3, vm, vp, vi, vr, rfl, hf⟩
    have NE := Lib.hid (parseF_ne L)
    have B3 := Lib.hid (B2.out.trans (b3.mono B2.out.size))
    have R3 := R2.out.later b3
    obtain ⟨a1, c1, a2, c2, a3, c3, a4, c4, rfl, rfl, rfl, rfl⟩ := hf.shapes
    have ba : Below w3.heap.size w3 (w3.alloc (.cells #[.slice a1 (parseF L).1.1.length c1, .slice a2 (parseF L).1.2.1.length c2, .slice a3 (parseF L).1.2.2.1.length c3, .slice a4 (parseF L).1.2.2.2.length c4] 36)) := (Below.refl _ _).alloc (Nat.le_refl _) _
    have F4 := Lib.hid (hf.later ba)
    have B4 := Lib.hid (B3.out.trans (ba.mono B3.out.size))
    have R4 := Lib.hid (R3.later ba)
    have X4 := Lib.hid (blk_new w3 #[.slice a1 (parseF L).1.1.length c1, .slice a2 (parseF L).1.2.1.length c2, .slice a3 (parseF L).1.2.2.1.length c3, .slice a4 (parseF L).1.2.2.2.length c4] 36)
    clear ba hf b3 PA R3 R2
    generalize (parseF L).2.2 = E at *
    generalize (parseF L).2.1 = N at *
    generalize (parseF L).1 = F at *
    obtain ⟨x0, x1, x2, x3⟩ := show _ ∧ _ ∧ _ ∧ _ from ⟨X4.out.cell (i := 0) rfl, X4.out.cell (i := 1) rfl, X4.out.cell (i := 2) rfl, X4.out.cell (i := 3) rfl⟩
    obtain ⟨r0, r1, r2, r3⟩ := show _ ∧ _ ∧ _ ∧ _ from ⟨R4.out.cell (i := 0) rfl, R4.out.cell (i := 1) rfl, R4.out.cell (i := 2) rfl, R4.out.cell (i := 3) rfl⟩
    obtain ⟨p0, p1, p2, p3⟩ := show _ ∧ _ ∧ _ ∧ _ from ⟨R4.out.free 0, R4.out.free 1, R4.out.free 2, R4.out.free 3⟩
    have BX := Lib.hid B4.out
    have FX : Hid (∀ u0 u1 u2 u3, FIn (((((w3.alloc (.cells #[.slice a1 F.1.length c1, .slice a2 F.2.1.length c2, .slice a3 F.2.2.1.length c3, .slice a4 F.2.2.2.length c4] 36)).setCell ⟨w.heap.size, 0, none⟩ u0).setCell ⟨w.heap.size, 1, none⟩ u1).setCell ⟨w.heap.size, 2, none⟩ u2).setCell ⟨w.heap.size, 3, none⟩ u3) (.slice a1 F.1.length c1) (.slice a2 F.2.1.length c2) (.slice a3 F.2.2.1.length c3) (.slice a4 F.2.2.2.length c4) F) := fun u0 u1 u2 u3 => FIn.oth (k := w.heap.size) (t := 36) R4.out (oth_set4 _ _ u0 u1 u2 u3) F4.out NE.out
    clear X4 R4 F4 NE
    go_wp2
    (try simp only [Exit.inBlock, Exit.then])
    refine bodyPost_ret (v := .tuple #[.agg #[.slice a1 F.1.length c1, .slice a2 F.2.1.length c2, .slice a3 F.2.2.1.length c3, .slice a4 F.2.2.2.length c4], .int .i64 E]) ?_ rfl ⟨set4_below BX.out _ _ _ _, _, _, _, _, by rw [LL.out], by rw [LL.out]; exact FX.out _ _ _ _⟩
    rw [results_cell_tmp rfl]; go_simp
  · have LL := Lib.hid (L0.out hE)
    have z1 : ((linesR s T).2 != 0) = true := by rw [bne_iff_ne]; exact hE
    obtain ⟨a2, c2, rfl⟩ := h2.shape
    clear hE h2 hx2 hl2 L0 L1
    generalize (linesR s T).2 = E at *
    generalize (linesR s T).1.length = ll at *
    obtain ⟨r0, r1, r2, r3⟩ := show _ ∧ _ ∧ _ ∧ _ from ⟨R2.out.cell (i := 0) rfl, R2.out.cell (i := 1) rfl, R2.out.cell (i := 2) rfl, R2.out.cell (i := 3) rfl⟩
    obtain ⟨p0, p1, p2, p3⟩ := show _ ∧ _ ∧ _ ∧ _ from ⟨R2.out.free 0, R2.out.free 1, R2.out.free 2, R2.out.free 3⟩
    go_wp2
    (try simp only [Exit.inBlock, Exit.then])
    refine bodyPost_ret (v := .tuple #[.agg #[.slice none 0 0, .slice none 0 0, .slice none 0 0, .slice none 0 0], .int .i64 E]) ?_ rfl ⟨by first | exact set4_below B2.out _ _ _ _ | exact B2.out, _, _, _, _, by rw [LL.out], by rw [LL.out]; exact FIn.nil _⟩
    rw [results_cell_tmp rfl]; go_simp
end Go.Proofs.YtfgcbdjkimkgpaaGreatDoor
