/-
  The law MacroUses holds: the walk. Condition: at most 1048576 macros, strings of at most 2^32 bytes.
-/
import Derived.Test.YtoinflfibofofaaMOrderW
import Derived.Deep.RegionHeld3
namespace Go.Proofs.Ytoinflfibofofaa
set_option linter.unusedVariables false
open Go.ChangeShapes Go.WideShapes Go.ChangeAt Go.RowKit

theorem ans_more {z : List Mc} {x : Mc} {s a b : Str} {E F : Int} (h1 : Ans z s a E) (h2 : Ans (z ++ [x]) s b F) : (E = 0 → F = 0 → a = b) ∧ (E ≠ 0 → a = []) ∧ (F ≠ 0 → b = []) := by
  rcases h1 with ⟨rfl, h1⟩ | ⟨e1, rfl, _, h1⟩ <;> rcases h2 with ⟨rfl, h2⟩ | ⟨e2, rfl, _, h2⟩
  · exact ⟨fun _ _ => h1.more h2, fun h => absurd rfl h, fun h => absurd rfl h⟩
  · exact ⟨fun _ h => absurd h e2, fun h => absurd rfl h, fun _ => rfl⟩
  · exact ⟨fun h _ => absurd h e1, fun _ => rfl, fun h => absurd rfl h⟩
  · exact ⟨fun h _ => absurd h e1, fun _ => rfl, fun _ => rfl⟩
/-- append as one step of a region that draws -/
theorem step_append_run {P : Program} {ops : Array Oper} {o : Oper} {a : Act} {w : World} {K : Act → World → Prop} {Q : Exit → Act → World → Prop} {E : Prop}
    (hg : o.guard = none) (s x : Operand) (t : TypeId) (hop : o.op = Op.call { callee := Callee.builtin Builtin.append, args := #[s, x], argTypes := #[t, t] })
    (vs vx : Value) (hs : a.eval s = vs) (hx : a.eval x = vx) (v' : Value) (w' : World) (hr : (Builtin.append_ #[t, t] o.type #[vs, vx]).run P w = .ok v' w') (hK : K (a.put o.dst v') w') :
    if Region.wanted o (yielded ops a.tmps) = true then Oper.wp P o a w K Q else E := by
  have hw : Region.wanted o (yielded ops a.tmps) = true := by simp [Region.wanted, hg]
  rw [if_pos hw]
  unfold Oper.wp
  simp [execOp, hop, resolve, invoke, builtin, hs, hx, hr, Result.andThen]
  exact hK
theorem two_later {w w' : World} {q : Nat} {x y : Value} (h : ∀ j u, [x, y][j]? = some u → w.cell? ((⟨q, 0, none⟩ : Addr).add j) = some u) (hb : Below w.heap.size w w') : ∀ j u, [x, y][j]? = some u → w'.cell? ((⟨q, 0, none⟩ : Addr).add j) = some u :=
  fun j u hj => cell_later hb (h j u hj)
theorem MO.alloc {B : Nat} {v : Value} {o : List Mc} {w : World} (h : MO B v o w) (q : Obj) : MO B v o (w.alloc q) := World.ownsRow.alloc h q
theorem app_mc {B q : Nat} {z : List Mc} {v : Value} {x y : Str} {W : World} (h : MO B v z W) (hc : ∀ j u, [Value.string (bs x), .string (bs y)][j]? = some u → W.cell? ((⟨q, 0, none⟩ : Addr).add j) = some u) (hn : z.length ≤ 1048576) (hB : B ≤ W.heap.size) :
    ∃ a4 c4 w4, (Builtin.append_ #[22, 22] 22 #[v, .slice (some ⟨q, 0, none⟩) 1 1]).run Try.prog W = .ok (.slice a4 (z.length + 1) c4) w4 ∧ MO B (.slice a4 (z.length + 1) c4) (z ++ [(x, y)]) w4 ∧ W.grownBy w4 v.ownBlock := by
  obtain ⟨i0, hi, hz0, hz1, hz2⟩ := info_parts infoMc
  obtain ⟨v4, w4, r4, o4, g4, _⟩ := run_append_own (P := Try.prog) W B 22 22 25 i0 (.agg #[.string ByteArray.empty, .string ByteArray.empty]) 2 32 Try.underlying22 hi hz0 hz1 hz2 rfl (by decide) v z.length (mcCells z) h ⟨q, 0, none⟩ 1 1 [.string (bs x), .string (bs y)] rfl hc (by intro u hu; simp at hu; rcases hu with rfl | rfl <;> rfl) (by unfold maxLen; omega) (by omega) hB
  have o5 := MO.snoc o4
  obtain ⟨a, c, rfl⟩ := o5.len
  rw [List.length_append, List.length_singleton] at r4 o5
  exact ⟨a, c, w4, r4, o5, g4⟩
set_option maxHeartbeats 4000000 in
set_option maxRecDepth 100000 in
theorem usesl_walk (z : List Mc) (v : Value) (s x y : Str) (w : World) (h : McIn w v z) (hn : z.length ≤ 1048576) (hx : ∀ m ∈ z, m.1.length ≤ maxLen ∧ m.2.length ≤ 4294967296) (hs : s.length ≤ 4294967296) (hxy : x.length ≤ maxLen ∧ y.length ≤ 4294967296) :
    Calls Try.prog 6 #[v, .string (bs s), .agg #[.string (bs x), .string (bs y)]] w fun e w' => e = .returned (.bool true) ∧ Below w.heap.size w w' := by
  have EX : Hid (∀ (W : World), Below w.heap.size w W → Calls Try.prog 10 #[v, .string (bs s)] W (EPost z s W)) := fun W hW => exp_any z s v W (h.later hW) hx hs
  have EP : Hid (∀ (u : Value) (W : World), McIn W u (z ++ [(x, y)]) → Calls Try.prog 10 #[u, .string (bs s)] W (EPost (z ++ [(x, y)]) s W)) := fun u W hu => exp_any _ s u W hu (fun m hm => by
    rcases List.mem_append.1 hm with hm | hm
    · exact hx m hm
    · rw [List.mem_singleton.1 hm]; exact hxy) hs
  have CL : Hid (∀ (W : World), Below w.heap.size w W → Calls Try.prog 21 #[v] W fun e w' => ∃ v', e = .returned v' ∧ MO W.heap.size v' z w' ∧ Below W.heap.size W w') := fun W hW => clone_any z v W (h.later hW) hn
  have HN := Lib.hid hn
  have ST := Lib.hid (stay_new w (.string (bs x)) (.string (bs y)))
  have BA : Hid (∀ o, Below w.heap.size w (w.alloc o)) := fun o => (Below.refl _ _).alloc (Nat.le_refl _) o
  obtain ⟨i0, hi, hz0, hz1, hz2⟩ := info_parts infoMc
  have IH := Lib.hid hi; clear hi
  clear h hx hs hn hxy
  go_enter Try.func6, Try.ntmps6
  go_wp2_with fail
  refine (macros_any _).mono ?_
  rintro e w1 ⟨rfl, hb1⟩
  have B1 : Hid (Below w.heap.size w w1) := (BA.out _).trans (hb1.mono (BA.out _).size)
  have S1 := Lib.hid (ST.out.later hb1)
  clear hb1 ST BA
  go_wp2_with fail
  refine (EX.out _ B1.out).mono ?_
  intro e w2 h2
  obtain ⟨hb2, a, E, rfl, ha⟩ := ans_of h2
  have B2 : Hid (Below w.heap.size w w2) := B1.out.trans (hb2.mono B1.out.size)
  have S2 := Lib.hid (S1.out.later hb2)
  have HA := Lib.hid ha
  clear h2 hb2 ha S1 B1
  obtain ⟨c1, c2⟩ := S2.out.cells
  have SL : Hid (∀ W, Below w2.heap.size w2 W → Stay w.heap.size (.string (bs x)) (.string (bs y)) W) := fun W hW => S2.out.later hW
  have BL : Hid (∀ W, Below w2.heap.size w2 W → Below w.heap.size w W) := fun W hW => B2.out.trans (hW.mono B2.out.size)
  have BD : Hid (∀ o, Below w2.heap.size w2 (w2.alloc o).drew) := fun o => ((Below.refl _ _).alloc (Nat.le_refl _) o).drew
  go_wp2_with fail
  go_region_held3 (fun w' => w'.cell? ⟨w.heap.size, 0, none⟩ = some (.string (bs x)) ∧ w'.cell? ⟨w.heap.size, 1, none⟩ = some (.string (bs y))) (first | assumption | (exact ⟨c1, c2⟩) | go_keep) (first
    | (go_at_call 21
       refine (CL.out w2.drew (BL.out _ (Below.refl _ _).drew)).mono ?_
       rintro e w3 ⟨v3, rfl, o3, b3⟩
       have B3 : Hid (Below w2.heap.size w2 w3) := (Below.refl _ _).drew.trans b3
       obtain ⟨a4, c4, w4, r4, o4, g4⟩ := app_mc (MO.alloc o3 (.cells #[.string (bs x), .string (bs y)] 25)) (two_new w3 (.string (bs x)) (.string (bs y)) 25) HN.out (by simp; exact Nat.le_succ_of_le b3.size)
       obtain ⟨a3, n3, c3, rfl⟩ := own_shape o3
       have O4 := Lib.hid o4
       have R4a := Lib.hid r4
       have B4 : Hid (Below w2.heap.size w2 w4) := (B3.out.alloc B3.out.size _).grown g4 (by have := B3.out.size; simp; omega) (fun k hk => (o3.lt k hk).1)
       obtain ⟨k1, k2⟩ := (SL.out _ B3.out).cells
       obtain ⟨k3, k4⟩ := (SL.out _ (B3.out.alloc B3.out.size (.cells #[.string (bs x), .string (bs y)] 25))).cells
       obtain ⟨k5, k6⟩ := (SL.out _ B4.out).cells
       clear o3 b3 o4 g4 r4)
    | (go_at_call 21
       refine (CL.out (w2.alloc (.cells #[.string (bs x), .string (bs y)] 25)).drew (BL.out _ (BD.out _))).mono ?_
       rintro e w3 ⟨v3, rfl, o3, b3⟩
       have B3 : Hid (Below w2.heap.size w2 w3) := (BD.out _).trans (b3.mono (BD.out _).size)
       obtain ⟨a4, c4, w4, r4, o4, g4⟩ := app_mc (q := w2.heap.size) o3 (two_later (w := (w2.alloc (.cells #[.string (bs x), .string (bs y)] 25)).drew) (two_new w2 (.string (bs x)) (.string (bs y)) 25) b3) HN.out b3.size
       obtain ⟨a3, n3, c3, rfl⟩ := own_shape o3
       have O4 := Lib.hid o4
       have R4b := Lib.hid r4
       have B4 : Hid (Below w2.heap.size w2 w4) := B3.out.grown g4 B3.out.size (fun k hk => Nat.le_trans (BD.out _).size (o3.lt k hk).1)
       obtain ⟨k1, k2⟩ := (SL.out _ B3.out).cells
       obtain ⟨k5, k6⟩ := (SL.out _ B4.out).cells
       clear o3 b3 o4 g4 r4)
    | (refine step_append_run rfl (.tmp 21) (.tmp 23) 22 rfl (.slice a3 n3 c3) (.slice (some ⟨w2.heap.size, 0, none⟩) 1 1) (by simp [Act.eval]) (by simp [Act.eval]) (.slice a4 (z.length + 1) c4) w4 R4b.out ?_)
    | (refine step_append_run rfl (.tmp 21) (.tmp 23) 22 rfl (.slice a3 n3 c3) (.slice (some ⟨w3.heap.size, 0, none⟩) 1 1) (by simp [Act.eval]) (by simp [Act.eval]) (.slice a4 (z.length + 1) c4) w4 R4a.out ?_)
    | (go_at_call 10
       refine (EP.out _ _ (McIn.own O4.out (by have := HN.out; rw [List.length_append]; simp; omega))).mono ?_
       intro e w5 h5
       obtain ⟨hb5, b, F, rfl, hb⟩ := ans_of h5
       have B5 : Hid (Below w2.heap.size w2 w5) := B4.out.trans (hb5.mono B4.out.size)
       have HB := Lib.hid hb
       obtain ⟨k7, k8⟩ := (SL.out _ B5.out).cells
       clear h5 hb5 hb))
  all_goals (
    have mo := ans_more HA.out HB.out
    have BB := Lib.hid (BL.out _ B5.out)
    have MO1 := Lib.hid mo.1
    have MO2 := Lib.hid mo.2.1
    have MO3 := Lib.hid mo.2.2
    have e0 : ((bs []).toList == []) = true := by rw [bs_toList]; rfl
    have e1 : ((bs a).toList == (bs a).toList) = true := by simp
    clear mo
    by_cases hE : E = 0
    · by_cases hF : F = 0
      · have ab := MO1.out hE hF
        subst hE hF ab
        go_wp2
        go_ret
        exact ⟨ret_b (by simp), BB.out⟩
      · have ab := MO3.out hF
        have f1 : (F != 0) = true := by simpa using hF
        have f2 : (F == 0) = false := by simpa using hF
        subst hE ab
        clear hF
        go_wp2
        go_ret
        exact ⟨rfl, BB.out⟩
    · have ab := MO2.out hE
      have f1 : (E != 0) = true := by simpa using hE
      have f2 : (E == 0) = false := by simpa using hE
      subst ab
      clear hE
      by_cases hF : F = 0
      · subst hF
        go_wp2
        go_ret
        exact ⟨rfl, BB.out⟩
      · have ab := MO3.out hF
        have f3 : (F != 0) = true := by simpa using hF
        have f4 : (F == 0) = false := by simpa using hF
        subst ab
        clear hF
        go_wp2
        go_ret
        exact ⟨rfl, BB.out⟩)
theorem usesl_walkB (z : List Mc) (v : Value) (S : ByteArray) (x y : ByteArray) (w : World) (h : McIn w v z) (hn : z.length ≤ 1048576) (hx : ∀ m ∈ z, m.1.length ≤ maxLen ∧ m.2.length ≤ 4294967296) (hs : S.data.toList.length ≤ 4294967296) (hxy : x.data.toList.length ≤ maxLen ∧ y.data.toList.length ≤ 4294967296) :
    Calls Try.prog 6 #[v, .string S, .agg #[.string x, .string y]] w fun e w' => e = .returned (.bool true) ∧ Below w.heap.size w w' := by
  have := usesl_walk z v S.data.toList x.data.toList y.data.toList w h hn hx hs hxy
  rw [bs_of, bs_of, bs_of] at this
  exact this
end Go.Proofs.Ytoinflfibofofaa
