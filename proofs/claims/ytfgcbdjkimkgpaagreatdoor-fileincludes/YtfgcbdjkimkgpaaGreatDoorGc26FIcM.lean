/-
  Plain facts: what is included stands in its place. No condition.
  What the laws' own good answers of three errors: whether all are OK. No condition.
  The law FileIncludes, walked. Condition: the strings have at most 2^47 - 4096 bytes.
  Proved: millwrightkeep.FileIncludes answers true, whatever three texts are handed in, and leaves them as they were. No condition but that the card ties two tables of unicode/utf8 to the pruned copy of the project.
-/
import Derived.Test.YtfgcbdjkimkgpaaGreatDoorGc25LCard
import Derived.Test.YtfgcbdjkimkgpaaGreatDoorGc9LRa
import Derived.Test.YtfgcbdjkimkgpaaGreatDoorGc10FTx
import Derived.Test.YtfgcbdjkimkgpaaGreatDoorGc11FRd
import Derived.Test.YtfgcbdjkimkgpaaGreatDoorGc4LIn
import Derived.Test.YtfgcbdjkimkgpaaGreatDoorGc22FAd
import Derived.Test.YtfgcbdjkimkgpaaGreatDoorGc12NApp
namespace Go.Proofs.YtfgcbdjkimkgpaaGreatDoor
set_option maxRecDepth 100000
set_option linter.unusedVariables false

theorem ends_cons {c : UInt8} {r : Str} (h : r ≠ []) : ends92 (c :: r) = ends92 r := by
  unfold ends92
  cases r with
  | nil => exact absurd rfl h
  | cons d q => rw [List.getLast?_cons_cons]
theorem ends_ne {r : Str} (h : ends92 r = true) : r ≠ [] := by rintro rfl; exact absurd h (by decide)
theorem phys_blank {r : Str} (h : phys (r ++ [10]) = [[]]) : r = [] := by
  cases r with
  | nil => rfl
  | cons d q =>
    rw [List.cons_append, phys] at h
    have hne : phys (q ++ [10]) ≠ [] := by
      intro e
      have := phys_length' q
      rw [e, List.count_append] at this
      simp at this
    by_cases hd : d = 10
    · rw [if_pos hd] at h
      injection h with _ h2
      exact absurd h2 hne
    · rw [if_neg hd] at h
      obtain ⟨y, t, e⟩ := List.exists_cons_of_ne_nil hne
      rw [e] at h
      injection h with h1 _
      cases h1
theorem phys_last : ∀ s : Str, ∃ A x, phys (s ++ [10]) = A ++ [x] ∧ (ends92 x = true → ends92 s = true)
  | [] => ⟨[], [], by simp [phys], fun h => h⟩
  | c :: r => by
    obtain ⟨A, x, h, k⟩ := phys_last r
    rw [List.cons_append, phys, h]
    by_cases hc : c = 10
    · rw [if_pos hc]
      refine ⟨[] :: A, x, rfl, fun e => ?_⟩
      have := k e
      rw [ends_cons (ends_ne this)]; exact this
    · rw [if_neg hc]
      cases A with
      | nil =>
        refine ⟨[], c :: x, rfl, fun e => ?_⟩
        by_cases hx : x = []
        · subst hx
          have hr := phys_blank h
          subst hr; exact e
        · rw [ends_cons hx] at e
          have := k e
          rw [ends_cons (ends_ne this)]; exact this
      | cons a t =>
        refine ⟨(c :: a) :: t, x, rfl, fun e => ?_⟩
        have := k e
        rw [ends_cons (ends_ne this)]; exact this
theorem stops_line {s : Str} (h : ends92 s = false) : Stops (phys (s ++ [10])) := by
  obtain ⟨A, x, e, k⟩ := phys_last s
  intro y hy
  rw [e, List.getLast?_concat] at hy
  cases hy
  cases hx : ends92 x with
  | false => rfl
  | true => rw [k hx] at h; cases h
theorem look_nil (y : Str) : look [] y = none := rfl
/-- lines that include nothing stand for themselves -/
theorem rd_none : ∀ (l : List Str) (op : List Str) (n : Nat), (rd [] op n l).1 = 0 → (∀ x ∈ l, inc x = false) ∧ (rd [] op n l).2.1 = l
  | [], op, n, _ => ⟨fun x hx => absurd hx List.not_mem_nil, by rw [rd_nil]⟩
  | x :: r, op, n, h => by
    have e1 : (rd1 [] op n x).1 = 0 → inc x = false ∧ rd1 [] op n x = (0, [x], n + 1) := fun e => by
      unfold rd1 at e ⊢
      by_cases h1 : 200 ≤ n
      · rw [if_pos h1] at e; cases e
      rw [if_neg h1] at e ⊢
      by_cases h2 : inc x = false
      · exact ⟨h2, by rw [if_pos h2]⟩
      rw [if_neg h2] at e
      by_cases h3 : (words x).length ≠ 2
      · rw [if_pos h3] at e; cases e
      rw [if_neg h3] at e
      unfold rdI at e
      rw [look_nil] at e; cases e
    have hc := rd_cons [] op n x r
    rw [hc] at h ⊢
    unfold catR at h ⊢
    by_cases h0 : (rd1 [] op n x).1 ≠ 0
    · rw [if_pos h0] at h; exact absurd h h0
    · rw [if_neg h0] at h ⊢
      obtain ⟨i1, i2⟩ := e1 (by simpa using h0)
      rw [i2] at h ⊢
      obtain ⟨j1, j2⟩ := rd_none r op (n + 1) h
      refine ⟨fun y hy => ?_, ?_⟩
      · rcases List.mem_cons.1 hy with rfl | hy
        · exact i1
        · exact j1 y hy
      · show [x] ++ (rd [] op (n + 1) r).2.1 = x :: r
        rw [j2]; rfl
theorem rd_plain {T : List Mc} : ∀ (l : List Str) (op : List Str) (n : Nat), (∀ x ∈ l, inc x = false) → (rd T op n l).1 = 0 → (rd T op n l).2.1 = l
  | [], op, n, _, _ => by rw [rd_nil]
  | x :: r, op, n, hi, h => by
    have e1 : (rd1 T op n x).1 = 0 → rd1 T op n x = (0, [x], n + 1) := fun e => by
      unfold rd1 at e ⊢
      by_cases h1 : 200 ≤ n
      · rw [if_pos h1] at e; cases e
      rw [if_neg h1, if_pos (hi x (by simp))]
    rw [rd_cons] at h ⊢
    unfold catR at h ⊢
    by_cases h0 : (rd1 T op n x).1 ≠ 0
    · rw [if_pos h0] at h; exact absurd h h0
    · rw [if_neg h0] at h ⊢
      have i2 := e1 (by simpa using h0)
      rw [i2] at h ⊢
      have := rd_plain r op (n + 1) (fun y hy => hi y (by simp [hy])) h
      show [x] ++ (rd T op (n + 1) r).2.1 = x :: r
      rw [this]; rfl
theorem rd_two {T : List Mc} : ∀ (l r : List Str) (op : List Str) (n : Nat), (∀ x ∈ l, inc x = false) → (rd T op n (l ++ r)).1 = 0 → (rd T op (n + l.length) r).1 = 0 ∧ (rd T op n (l ++ r)).2.1 = l ++ (rd T op (n + l.length) r).2.1
  | [], r, op, n, _, h => ⟨h, rfl⟩
  | x :: l, r, op, n, hi, h => by
    have e1 : (rd1 T op n x).1 = 0 → rd1 T op n x = (0, [x], n + 1) := fun e => by
      unfold rd1 at e ⊢
      by_cases h1 : 200 ≤ n
      · rw [if_pos h1] at e; cases e
      rw [if_neg h1, if_pos (hi x (by simp))]
    rw [List.cons_append, rd_cons] at h ⊢
    unfold catR at h ⊢
    by_cases h0 : (rd1 T op n x).1 ≠ 0
    · rw [if_pos h0] at h; exact absurd h h0
    · rw [if_neg h0] at h ⊢
      have i2 := e1 (by simpa using h0)
      rw [i2] at h ⊢
      obtain ⟨j1, j2⟩ := rd_two l r op (n + 1) (fun y hy => hi y (by simp [hy])) h
      rw [List.length_cons, show n + (l.length + 1) = n + 1 + l.length by omega]
      refine ⟨j1, ?_⟩
      show [x] ++ (rd T op (n + 1) (l ++ r)).2.1 = _
      rw [j2]; rfl
theorem linesR_zero {s : Str} {T : List Mc} (h : (linesR s T).2 = 0) : tFault T = 0 ∧ (joinR s).2 = 0 ∧ (rd T [] 0 ((joinR s).1.map (·.2))).1 = 0 ∧ (linesR s T).1 = (rd T [] 0 ((joinR s).1.map (·.2))).2.1 := by
  by_cases h0 : tFault T = 0
  · rw [linesR_go h0] at h ⊢
    by_cases h1 : (rdS T [] 0 s).1 ≠ 0
    · rw [if_pos h1] at h; exact absurd h h1
    · rw [if_neg h1]
      have e : (rdS T [] 0 s).1 = 0 := by simpa using h1
      unfold rdS at e ⊢
      by_cases h2 : (joinR s).2 ≠ 0
      · rw [if_pos h2] at e; exact absurd e h2
      · rw [if_neg h2] at e ⊢
        exact ⟨h0, by simpa using h2, e, rfl⟩
  · rw [linesR_fault h0] at h; exact absurd h h0
/-- the law -/
theorem includes_plain {s n t : Str} (ha : (linesR t []).2 = 0) (hb : (linesR (s ++ 10 :: (incL n ++ [10])) [(n, t)]).2 = 0) (hc : (linesR (s ++ [10]) []).2 = 0) (hs : ends92 s = false) :
    (linesR (s ++ 10 :: (incL n ++ [10])) [(n, t)]).1 = (linesR (s ++ [10]) []).1 ++ (linesR t []).1 := by
  obtain ⟨_, a1, a2, a3⟩ := linesR_zero ha
  obtain ⟨b0, b1, b2, b3⟩ := linesR_zero hb
  obtain ⟨_, c1, c2, c3⟩ := linesR_zero hc
  have gn : good n = true := by
    cases hg : good n with
    | true => rfl
    | false =>
      unfold tFault at b0
      rw [if_neg (by simp), txF, if_pos hg] at b0; cases b0
  have p1 : phys (s ++ 10 :: (incL n ++ [10])) = phys (s ++ [10]) ++ [incL n] := by rw [phys_append, phys_one _ (incL_clean gn).nots.1]
  have l1 : (joinR (s ++ 10 :: (incL n ++ [10]))).1.map (·.2) = (joinR (s ++ [10])).1.map (·.2) ++ [incL n] := by
    rw [(joinR_ok b1).1, (joinR_ok c1).1, p1, lines_app _ 0 _ _ (Nat.le_refl _) (stops_line hs), List.map_append, (incL_clean gn).lines]; rfl
  obtain ⟨a4, a5⟩ := rd_none _ _ _ a2
  obtain ⟨c4, c5⟩ := rd_none _ _ _ c2
  rw [a3, b3, c3, a5, c5, l1]
  rw [l1] at b2
  obtain ⟨d1, d2⟩ := rd_two _ _ _ _ c4 b2
  rw [d2]
  congr 1
  generalize 0 + ((joinR (s ++ [10])).1.map (·.2)).length = m at d1 ⊢
  have hm : m < 200 := by
    rcases Nat.lt_or_ge m 200 with h | h
    · exact h
    · rw [rd_cons] at d1
      have e : rd1 [(n, t)] [] m (incL n) = (2, [], 0) := by unfold rd1; rw [if_pos h]
      rw [e] at d1; cases d1
  have e2 : rdI [(n, t)] [] (m + 1) n = rd [(n, t)] [n] (m + 1) ((joinR t).1.map (·.2)) := by
    have hl : look [(n, t)] n = some t := by simp [look]
    unfold rdI
    rw [hl]
    simp only []
    rw [if_neg (by simp)]
    unfold rdS
    rw [if_neg (by rw [a1]; decide)]
  rw [rd_inc _ _ _ gn hm, e2] at d1 ⊢
  unfold catR at d1 ⊢
  by_cases h0 : (rd [(n, t)] [n] (m + 1) ((joinR t).1.map (·.2))).1 ≠ 0
  · rw [if_pos h0] at d1; exact absurd d1 h0
  · rw [if_neg h0]
    have := rd_plain _ _ _ a4 (by simpa using h0)
    show _ ++ (rd [(n, t)] [] _ []).2.1 = _
    rw [this, rd_nil, List.append_nil]
end Go.Proofs.YtfgcbdjkimkgpaaGreatDoor
namespace Go.Proofs.YtfgcbdjkimkgpaaGreatDoor
set_option maxRecDepth 100000
open Go.ChangeShapes Go.WideShapes Go.ChangeAt Go.RowKit

theorem bad_any (x : Int) (w : World) : Calls Tryz.prog 66 #[.int .i64 x] w fun e w' => e = .returned (.bool (x != 0)) ∧ w' = w := by
  go_enter Tryz.func66, Tryz.ntmps66
  go_wp2
  go_ret
  exact ⟨rfl, rfl⟩
/-- the first that is no OK -/
def firstBad (x y z : Int) : Int := if x != 0 then 0 else if y != 0 then 1 else if z != 0 then 2 else -1
set_option maxHeartbeats 1000000 in
theorem idxBad_any (b : Nat) (x y z : Int) (w : World) (c0 : w.cell? ⟨b, 0, none⟩ = some (.int .i64 x)) (c1 : w.cell? ⟨b, 1, none⟩ = some (.int .i64 y)) (c2 : w.cell? ⟨b, 2, none⟩ = some (.int .i64 z)) :
    Calls Tryz.prog 97 #[.slice (some ⟨b, 0, none⟩) 3 3, .func (.func 66) #[] #[]] w fun e w' => e = .returned (.int .i64 (firstBad x y z)) ∧ w' = w := by
  have en := enters_of Tryz.func66 (by kernel_rfl) rfl
  unfold firstBad
  have HX := Lib.hid (bad_any x w); have HY := Lib.hid (bad_any y w); have HZ := Lib.hid (bad_any z w)
  cases hx : (x != 0) with
  | true =>
    rw [hx] at HX; clear hx HY HZ
    go_enter Tryz.func97, Tryz.ntmps97
    go_wp2_with fail
    refine wp_loop_rounds 4 ?_
    rw [rounds_succ]
    go_wp2_with fail
    refine HX.out.mono ?_
    rintro e w' ⟨rfl, rfl⟩
    go_wp2
    go_ret
    exact ⟨rfl, rfl⟩
  | false =>
    rw [hx] at HX; clear hx
    cases hy : (y != 0) with
    | true =>
      rw [hy] at HY; clear hy HZ
      go_enter Tryz.func97, Tryz.ntmps97
      go_wp2_with fail
      refine wp_loop_rounds 4 ?_
      rw [rounds_succ]
      go_wp2_with fail
      refine HX.out.mono ?_
      rintro e w' ⟨rfl, rfl⟩
      go_wp2_with fail
      rw [rounds_succ]
      go_wp2_with fail
      refine HY.out.mono ?_
      rintro e w' ⟨rfl, rfl⟩
      go_wp2
      go_ret
      exact ⟨rfl, rfl⟩
    | false =>
      rw [hy] at HY; clear hy
      cases hz : (z != 0) with
      | true =>
        rw [hz] at HZ; clear hz
        go_enter Tryz.func97, Tryz.ntmps97
        go_wp2_with fail
        refine wp_loop_rounds 4 ?_
        rw [rounds_succ]
        go_wp2_with fail
        refine HX.out.mono ?_
        rintro e w' ⟨rfl, rfl⟩
        go_wp2_with fail
        rw [rounds_succ]
        go_wp2_with fail
        refine HY.out.mono ?_
        rintro e w' ⟨rfl, rfl⟩
        go_wp2_with fail
        rw [rounds_succ]
        go_wp2_with fail
        refine HZ.out.mono ?_
        rintro e w' ⟨rfl, rfl⟩
        go_wp2
        go_ret
        exact ⟨rfl, rfl⟩
      | false =>
        rw [hz] at HZ; clear hz
        go_enter Tryz.func97, Tryz.ntmps97
        go_wp2_with fail
        refine wp_loop_rounds 4 ?_
        rw [rounds_succ]
        go_wp2_with fail
        refine HX.out.mono ?_
        rintro e w' ⟨rfl, rfl⟩
        go_wp2_with fail
        rw [rounds_succ]
        go_wp2_with fail
        refine HY.out.mono ?_
        rintro e w' ⟨rfl, rfl⟩
        go_wp2_with fail
        rw [rounds_succ]
        go_wp2_with fail
        refine HZ.out.mono ?_
        rintro e w' ⟨rfl, rfl⟩
        go_wp2_with fail
        rw [rounds_succ]
        go_wp2
        go_ret
        exact ⟨rfl, rfl⟩

theorem good_any (b : Nat) (x y z : Int) (w : World) (c0 : w.cell? ⟨b, 0, none⟩ = some (.int .i64 x)) (c1 : w.cell? ⟨b, 1, none⟩ = some (.int .i64 y)) (c2 : w.cell? ⟨b, 2, none⟩ = some (.int .i64 z)) :
    Calls Tryz.prog 32 #[.slice (some ⟨b, 0, none⟩) 3 3] w fun e w' => e = .returned (.bool (decide (x = 0 ∧ y = 0 ∧ z = 0))) ∧ w' = w := by
  have H := Lib.hid (idxBad_any b x y z w c0 c1 c2)
  have E : Hid ((!decide (0 ≤ firstBad x y z)) = decide (x = 0 ∧ y = 0 ∧ z = 0)) := Lib.hid (by
    unfold firstBad
    by_cases hx : x = 0 <;> by_cases hy : y = 0 <;> by_cases hz : z = 0 <;> simp [hx, hy, hz])
  generalize firstBad x y z = r at *
  clear c0 c1 c2
  go_enter Tryz.func32, Tryz.ntmps32
  go_wp2_with fail
  have C : Calls Tryz.prog 65 #[.slice (some ⟨b, 0, none⟩) 3 3, .func (.func 66) #[] #[]] w fun e w' => e = .returned (.bool (decide (0 ≤ r))) ∧ w' = w := by
    go_enter Tryz.func65, Tryz.ntmps65
    go_wp2_with fail
    refine H.out.mono ?_
    rintro e w' ⟨rfl, rfl⟩
    go_wp2
    go_ret
    exact ⟨rfl, rfl⟩
  refine C.mono ?_
  rintro e w' ⟨rfl, rfl⟩
  go_wp2
  go_ret
  exact ⟨ret_b E.out, rfl⟩
end Go.Proofs.YtfgcbdjkimkgpaaGreatDoor
namespace Go.Proofs.YtfgcbdjkimkgpaaGreatDoor
set_option maxRecDepth 100000
set_option linter.unusedVariables false
open Go.ChangeShapes Go.WideShapes Go.ChangeAt Go.RowKit

theorem McIn.text (w : World) (x y : Str) : McIn (w.alloc (.cells #[.string (bs x), .string (bs y)] 25)) (.slice (some ⟨w.heap.size, 0, none⟩) 1 1) [(x, y)] := by
  refine ⟨_, 1, rfl, Nat.le_refl _, by unfold maxLen; omega, by simp, .inr ⟨w.heap.size, 0, rfl, by simp, fun k m hk => ?_⟩⟩
  have b := blk_new w #[.string (bs x), .string (bs y)] 25
  match k, hk with
  | 0, hk =>
    simp at hk
    subst hk
    exact ⟨b.cell (i := 0) rfl, b.cell (i := 1) rfl⟩
set_option maxHeartbeats 16000000 in
theorem includes_walk (s n t : Str) (w : World) (hs : s.length ≤ 140737488351232) (hn : n.length ≤ 140737488351232) (ht : t.length ≤ 140737488351232) (hm : MX w) :
    Calls Tryz.prog 7 #[.string (bs s), .string (bs n), .string (bs t)] w fun e w' => e = .returned (.bool true) ∧ Below w.heap.size w w' := by
  have FT := Lib.hid (files_true w hm)
  have HM : Hid (∀ W, Below w.heap.size w W → MX W) := fun W hW => hm.later hW
  have LA : Hid (∀ W, MX W → Calls Tryz.prog 11 #[.string (bs t), .slice none 0 0] W (LnPost t [] W)) := fun W hW => flines_any t [] _ W (by omega) (mcin_nil _) (fun m hm => absurd hm List.not_mem_nil) hW
  have LC : Hid (∀ W, MX W → Calls Tryz.prog 11 #[.string (bs (s ++ [10])), .slice none 0 0] W (LnPost (s ++ [10]) [] W)) := fun W hW => flines_any (s ++ [10]) [] _ W (by rw [List.length_append]; simp; omega) (mcin_nil _) (fun m hm => absurd hm List.not_mem_nil) hW
  have LB : Hid (∀ W v, MX W → McIn W v [(n, t)] → Calls Tryz.prog 11 #[.string (bs (s ++ 10 :: (incL n ++ [10]))), v] W (LnPost (s ++ 10 :: (incL n ++ [10])) [(n, t)] W)) := fun W v hW hv => flines_any _ _ v W (by simp [incL, incW]; omega) hv (fun m hm => by
    rw [List.mem_singleton] at hm; subst hm
    exact ⟨by show n.length ≤ maxLen; unfold maxLen; omega, by show t.length ≤ _; omega⟩) hW
  have LW : Hid ((linesR t []).2 = 0 → (linesR (s ++ 10 :: (incL n ++ [10])) [(n, t)]).2 = 0 → (linesR (s ++ [10]) []).2 = 0 → ends92 s = false → (linesR (s ++ 10 :: (incL n ++ [10])) [(n, t)]).1 = (linesR (s ++ [10]) []).1 ++ (linesR t []).1) := fun h1 h2 h3 h4 => includes_plain h1 h2 h3 h4
  have SF : Hid (∀ W, Calls Tryz.prog 33 #[.string (bs s), .string (ByteArray.mk #[92])] W fun e w' => e = .returned (.bool (ends92 s)) ∧ w' = W) := fun W => by
    have := Tryz.strings_HasSuffix (bs s) ⟨#[92]⟩ W (by rw [bs_size]; omega)
    rw [bs_list, ends_lib] at this
    exact this
  have k1 : bs s ++ ByteArray.mk #[10, 105, 110, 99, 108, 117, 100, 101, 32] = bs (s ++ [10, 105, 110, 99, 108, 117, 100, 101, 32]) := by rw [show ByteArray.mk #[10, 105, 110, 99, 108, 117, 100, 101, 32] = bs [10, 105, 110, 99, 108, 117, 100, 101, 32] from rfl, bs_append]
  have k2 : bs (s ++ [10, 105, 110, 99, 108, 117, 100, 101, 32]) ++ bs n = bs (s ++ [10, 105, 110, 99, 108, 117, 100, 101, 32] ++ n) := bs_append _ _
  have k3 : bs (s ++ [10, 105, 110, 99, 108, 117, 100, 101, 32] ++ n) ++ ByteArray.mk #[10] = bs (s ++ 10 :: (incL n ++ [10])) := by
    rw [show ByteArray.mk #[10] = bs [10] from rfl, bs_append]; simp [incL, incW]
  have k4 : bs s ++ ByteArray.mk #[10] = bs (s ++ [10]) := by rw [show ByteArray.mk #[10] = bs [10] from rfl, bs_append]
  have z1 : (bs s).size ≤ 140737488351232 := by rw [bs_size]; exact hs
  have z2 : (bs n).size ≤ 140737488351232 := by rw [bs_size]; exact hn
  have z3 : (ByteArray.mk #[10, 105, 110, 99, 108, 117, 100, 101, 32]).size = 9 := rfl
  have z4 : (ByteArray.mk #[10]).size = 1 := rfl
  have z5 : (bs (s ++ [10, 105, 110, 99, 108, 117, 100, 101, 32])).size ≤ 140737488351241 := by rw [bs_size, List.length_append]; simp; omega
  have z6 : (bs (s ++ [10, 105, 110, 99, 108, 117, 100, 101, 32] ++ n)).size ≤ 281474976702473 := by rw [bs_size, List.length_append, List.length_append]; simp; omega
  have MT : Hid (∀ W : World, McIn (W.alloc (.cells #[.string (bs n), .string (bs t)] 25)) (.slice (some ⟨W.heap.size, 0, none⟩) 1 1) [(n, t)]) := fun W => McIn.text W n t
  have EC : Hid (ends92 s = ends92 s) := rfl
  generalize hra : linesR t [] = ra at *
  generalize hrc : linesR (s ++ [10]) [] = rc at *
  generalize hrb : linesR (s ++ 10 :: (incL n ++ [10])) [(n, t)] = rb at *
  have HRA := Lib.hid hra; have HRB := Lib.hid hrb; have HRC := Lib.hid hrc
  clear hra hrb hrc hs hn ht hm
  generalize bs (s ++ [10]) = Y4 at *
  generalize bs (s ++ 10 :: (incL n ++ [10])) = Y3 at *
  generalize bs (s ++ [10, 105, 110, 99, 108, 117, 100, 101, 32] ++ n) = Y2 at *
  generalize bs (s ++ [10, 105, 110, 99, 108, 117, 100, 101, 32]) = Y1 at *
  generalize ends92 s = q at *
  have Z1 := Lib.hid z1; have Z2 := Lib.hid z2; have Z3 := Lib.hid z3; have Z4 := Lib.hid z4; have Z5 := Lib.hid z5; have Z6 := Lib.hid z6
  clear z1 z2 z3 z4 z5 z6
  go_enter Tryz.func7, Tryz.ntmps7
  go_wp2_with fail
  refine FT.out.mono ?_
  rintro e w1 ⟨rfl, hb1⟩
  have B1 := Lib.hid hb1
  clear hb1 FT
  go_wp2_with fail
  refine (LA.out _ (HM.out _ B1.out)).mono ?_
  rintro e w2 ⟨hb2, va, rfl, ia, _, la⟩
  rw [HRA.out] at ia la ⊢
  have B2 : Hid (Below w.heap.size w w2) := B1.out.trans (hb2.mono B1.out.size)
  have IA := Lib.hid ia; have NA := Lib.hid la
  clear hb2 ia la LA
  have ba : Below w2.heap.size w2 (w2.alloc (.cells #[.string (bs n), .string (bs t)] 25)) := (Below.refl _ _).alloc (Nat.le_refl _) _
  have B3 : Hid (Below w.heap.size w (w2.alloc (.cells #[.string (bs n), .string (bs t)] 25))) := B2.out.trans (ba.mono B2.out.size)
  have IA3 := Lib.hid (IA.out.later ba)
  have LB3 := Lib.hid (LB.out _ _ (HM.out _ B3.out) (MT.out w2))
  clear ba IA LB
  have z1 := Z1.out; have z2 := Z2.out; have z3 := Z3.out; have z4 := Z4.out; have z5 := Z5.out; have z6 := Z6.out
  go_wp2_with fail
  refine LB3.out.mono ?_
  clear z1 z2 z3 z4 z5 z6
  rintro e w3 ⟨hb3, vb, rfl, ib, _, lb⟩
  rw [HRB.out] at ib lb ⊢
  have B4 : Hid (Below w.heap.size w w3) := B3.out.trans (hb3.mono B3.out.size)
  have IA4 := Lib.hid (IA3.out.later hb3)
  have IB := Lib.hid ib
  clear hb3 ib lb LB3 IA3
  have z1 := Z1.out; have z4 := Z4.out
  go_wp2_with fail
  refine (LC.out _ (HM.out _ B4.out)).mono ?_
  clear z1 z4
  rintro e w4 ⟨hb4, vc, rfl, ic, _, lc⟩
  rw [HRC.out] at ic lc ⊢
  have B5 : Hid (Below w.heap.size w w4) := B4.out.trans (hb4.mono B4.out.size)
  have IA5 := Lib.hid (IA4.out.later hb4); have IB5 := Lib.hid (IB.out.later hb4)
  have IC := Lib.hid ic; have NC := Lib.hid lc
  clear hb4 ic lc LC IA4 IB
  have b0 := blk_new w4 #[.int .i64 ra.2, .int .i64 rb.2, .int .i64 rc.2] 28
  have G3 := Lib.hid (good_any w4.heap.size ra.2 rb.2 rc.2 _ (b0.cell (i := 0) rfl) (b0.cell (i := 1) rfl) (b0.cell (i := 2) rfl))
  have ba : Below w4.heap.size w4 (w4.alloc (.cells #[.int .i64 ra.2, .int .i64 rb.2, .int .i64 rc.2] 28)) := (Below.refl _ _).alloc (Nat.le_refl _) _
  have B6 : Hid (Below w.heap.size w (w4.alloc (.cells #[.int .i64 ra.2, .int .i64 rb.2, .int .i64 rc.2] 28))) := B5.out.trans (ba.mono B5.out.size)
  have IA6 := Lib.hid (IA5.out.later ba); have IB6 := Lib.hid (IB5.out.later ba); have IC6 := Lib.hid (IC.out.later ba)
  clear b0 ba IA5 IB5 IC
  go_wp2_with fail
  refine G3.out.mono ?_
  rintro e w5 ⟨rfl, rfl⟩
  by_cases hz : ra.2 = 0 ∧ rb.2 = 0 ∧ rc.2 = 0
  · rw [decide_eq_true hz]
    have HZ := Lib.hid hz
    clear hz G3
    obtain ⟨w6, hw6⟩ : ∃ w6, w6 = w4.alloc (.cells #[.int .i64 ra.2, .int .i64 rb.2, .int .i64 rc.2] 28) := ⟨_, rfl⟩
    rw [← hw6] at B6 IA6 IB6 IC6 ⊢
    clear hw6
    obtain ⟨xa, ca, rfl⟩ := IA6.out.shape
    obtain ⟨xc, cc, rfl⟩ := IC6.out.shape
    have b0 := blk_new w6 #[.slice xc rc.1.length cc, .slice xa ra.1.length ca] 27
    have ba : Below w6.heap.size w6 (w6.alloc (.cells #[.slice xc rc.1.length cc, .slice xa ra.1.length ca] 27)) := (Below.refl _ _).alloc (Nat.le_refl _) _
    have B7 : Hid (Below w.heap.size w (w6.alloc (.cells #[.slice xc rc.1.length cc, .slice xa ra.1.length ca] 27))) := B6.out.trans (ba.mono B6.out.size)
    have CO := Lib.hid (concat_any (IC6.out.later ba) (IA6.out.later ba) (by have := NA.out; have := NC.out; omega) (b0.cell (i := 0) rfl) (b0.cell (i := 1) rfl))
    have IB7 := Lib.hid (IB6.out.later ba)
    have SMC : Hid (∀ x ∈ rc.1 ++ ra.1, x.length ≤ 9223372036854775807) := fun x hx => by
      rcases List.mem_append.1 hx with h | h
      · exact IC6.out.small x h
      · exact IA6.out.small x h
    have NAC : Hid ((rc.1 ++ ra.1).length ≤ 17592186044416) := by have := NA.out; have := NC.out; rw [List.length_append]; show _ ≤ _; omega
    clear b0 ba IB6
    go_wp2_with fail
    refine CO.out.mono ?_
    rintro e w7 ⟨vd, rfl, od, hb7⟩
    have B8 : Hid (Below w.heap.size w w7) := B7.out.trans (hb7.mono B7.out.size)
    have ID := Lib.hid (SIn.own od NAC.out SMC.out)
    have EQ := Lib.hid (equal_of (IB7.out.later hb7) ID.out)
    clear od hb7 CO
    go_wp2_with fail
    refine EQ.out.mono ?_
    rintro e w8 ⟨rfl, q8, rfl⟩
    by_cases he : rb.1 = rc.1 ++ ra.1
    · rw [decide_eq_true he]
      clear he
      go_wp2
      go_ret
      exact ⟨rfl, below_drewN B8.out _⟩
    · rw [decide_eq_false he]
      have HQ : Hid (q = true) := by
        show _ = _
        cases q with
        | true => rfl
        | false => exact absurd (LW.out HZ.out.1 HZ.out.2.1 HZ.out.2.2 rfl) he
      clear he
      have sf := SF.out (w7.drewN q8)
      rw [HQ.out] at sf
      have SF' := Lib.hid sf
      clear sf
      go_wp2_with fail
      refine SF'.out.mono ?_
      rintro e w9 ⟨rfl, rfl⟩
      go_wp2
      go_ret
      exact ⟨rfl, below_drewN B8.out _⟩
  · rw [decide_eq_false hz]
    clear hz
    go_wp2
    go_ret
    exact ⟨rfl, B6.out⟩
theorem file_includes (a b c : ByteArray) (w : World) (hm : MX w) (ha : a.size ≤ 140737488351232) (hb : b.size ≤ 140737488351232) (hc : c.size ≤ 140737488351232) : Calls Tryz.prog 7 #[.string a, .string b, .string c] w fun e w' => e = .returned (.bool true) ∧ Below w.heap.size w w' := by
  have := includes_walk a.data.toList b.data.toList c.data.toList w (by rw [size_list]; omega) (by rw [size_list]; omega) (by rw [size_list]; omega) hm
  rw [bs_of, bs_of, bs_of] at this
  exact this
end Go.Proofs.YtfgcbdjkimkgpaaGreatDoor
namespace Go.Proofs.YtfgcbdjkimkgpaaGreatDoor.fileIncludes
open Go.ChangeShapes Go.WideShapes Go.ChangeAt Go.RowKit
open Go.ChangeMaps (open_string shut_string)
set_option linter.unusedVariables false

set_option maxRecDepth 100000 in
theorem contract (H : Type) (enc : TypeId × Value → H) (W : World) (base : Nat) (args : Array Value) (ds gs : List (DataW H)) (before : List MemPlace)
    (hval : ∀ (j : Nat) t v, Tryz.f7.params[j]? = some t → args[j]? = some v → Value.okWide Tryz.prog W .any base t v)
    (hW : DataW.Whole enc Tryz.prog Tryz.f7.params.toList Rows.fileIncludesSpec.vars false W args.toList ds gs before)
    (hsz : (DataW.weightsEach Tryz.prog (Tryz.f7.params.toList ++ Rows.fileIncludesSpec.plain.varTypes Tryz.prog) (ds ++ gs)).all (· ≤ reachBytes) = true) (hsh : W.ShapedOpen Tryz.prog) :
    Calls Tryz.prog 7 args W fun e W' => ∃ v, e = .returned v ∧ Rows.fileIncludesSpec.post enc Tryz.prog Tryz.f7 false true false false W args v W' := by
  have hW' := hW
  obtain ⟨p, q, hA0, hV, rfl, hfz, hnd⟩ := hW
  have hA : DataW.TrodAll enc Tryz.prog W 0 (fun _ => true) true Tryz.f7.params.toList args.toList ds p := hA0
  rw [Tryz.params7] at hA hval hsz
  obtain ⟨v0, vs0, d0, ds0, p0, q0, hargs, rfl, rfl, h0, r0⟩ := trodAll_cons hA
  obtain ⟨v1, vs1, d1, ds1, p1, q1, rfl, rfl, rfl, h1, r1⟩ := trodAll_cons r0
  obtain ⟨v2, vs2, d2, ds2, p2, q2, rfl, rfl, rfl, h2, r2⟩ := trodAll_cons r1
  obtain ⟨rfl, rfl, rfl⟩ := trodAll_nil r2
  obtain rfl : args = #[v0, v1, v2] := Array.ext' hargs
  obtain ⟨rfl, rfl⟩ := trodVars_none hV
  obtain ⟨a0, rfl, rfl, rfl, w0⟩ := open_string Tryz.underlying9 (hval 0 9 v0 rfl rfl) h0
  have b0 : Rows.uptoBulk (DataW.lit (H := H) (.string a0.data.toList)) = a0.size + 1 := by simp only [Rows.uptoBulk]; rw [size_list]
  have s0 : a0.size ≤ 140737488351232 := by have := sized_string (j := 0) hsz rfl rfl; rw [size_list] at this; exact this
  obtain ⟨a1, rfl, rfl, rfl, w1⟩ := open_string Tryz.underlying9 (hval 1 9 v1 rfl rfl) h1
  have b1 : Rows.uptoBulk (DataW.lit (H := H) (.string a1.data.toList)) = a1.size + 1 := by simp only [Rows.uptoBulk]; rw [size_list]
  have s1 : a1.size ≤ 140737488351232 := by have := sized_string (j := 1) hsz rfl rfl; rw [size_list] at this; exact this
  obtain ⟨a2, rfl, rfl, rfl, w2⟩ := open_string Tryz.underlying9 (hval 2 9 v2 rfl rfl) h2
  have b2 : Rows.uptoBulk (DataW.lit (H := H) (.string a2.data.toList)) = a2.size + 1 := by simp only [Rows.uptoBulk]; rw [size_list]
  have s2 : a2.size ≤ 140737488351232 := by have := sized_string (j := 2) hsz rfl rfl; rw [size_list] at this; exact this
  clear hA0
  refine (file_includes a0 a1 a2 W (mx_of hsh) s0 s1 s2).mono fun e W' ⟨he, bel⟩ => ?_
  subst he
  exact ⟨_, rfl, _, _, _, [], _, [], hW', trodAll_mk1 (shut_bool Tryz.underlying4 _), (trodAll_cons_mk (shut_string Tryz.underlying9 w0) (trodAll_cons_mk (shut_string Tryz.underlying9 w1) (trodAll_cons_mk (shut_string Tryz.underlying9 w2) trodAll_mk0))), rfl, bel.frame _, fun h => by cases h⟩

theorem laid_met (os : Os) : laidMet Tryz.prog Rows.fileIncludesRow.laid ((laidWorld os).forCall (fun _ _ => 0) ⟨#[], #[.string ByteArray.empty, .string ByteArray.empty, .string ByteArray.empty], []⟩).memory :=
  laidMet_of_run' 8 (by kernel_rfl) (by kernel_rfl)
theorem reads (os : Os) {H : Type} (enc : TypeId × Value → H) : ∃ places, DataW.whole enc Tryz.prog ((laidWorld os).forCall (fun _ _ => 0) ⟨#[], #[.string ByteArray.empty, .string ByteArray.empty, .string ByteArray.empty], []⟩).memory Tryz.f7.params.toList Rows.fileIncludesSpec.vars false (#[.string ByteArray.empty, .string ByteArray.empty, .string ByteArray.empty] : Array Value).toList 8 = some ([.lit (.string []), .lit (.string []), .lit (.string [])], [], places) :=
  ⟨[], by kernel_rfl⟩

set_option maxRecDepth 100000 in
theorem lifted (os : Os) (started : os.Started) (H : Type) (enc : TypeId × Value → H) (F : Stop.Interp) :
    ReturnsInHanded {} Tryz.checked os 7 .any ((OpenSpec.ofChange Rows.fileIncludesSpec).preRow enc Tryz.prog Tryz.f7 Rows.fileIncludesRow.domain false Rows.fileIncludesRow.laid) (((OpenSpec.ofChange Rows.fileIncludesSpec).at F).post enc Tryz.prog Tryz.f7 false true false false) := by
  obtain ⟨places, hx⟩ := reads os enc
  refine returnsInHanded_of_row (C := Tryz.checked) (s := (OpenSpec.ofChange Rows.fileIncludesSpec)) own started (by kernel_rfl) Tryz.func7
    (witness_row_at (enc := enc) (C := Tryz.checked) false (laidWorld os) #[.string ByteArray.empty, .string ByteArray.empty, .string ByteArray.empty] rfl (by kernel_rfl) (by kernel_rfl) (by kernel_rfl)
      (OpenSpec.preRow_of_cond 8 hx (by kernel_rfl) (fun k hk => by cases hk) (by kernel_rfl) (laid_met os))) ?_
  intro W base args ds gs before hval hW _ _ hsz hL hsh _
  exact contract H enc W base args ds gs before hval hW hsz hsh

theorem said : Rows.FileIncludesSaid :=
  OpenClaim.holds_of_cond 7 Tryz.f7 rfl rfl rfl rfl rfl rfl rfl ⟨rfl, rfl, rfl, rfl, rfl⟩ rfl rfl rfl rfl rfl (by kernel_rfl) Tryz.func7 (by kernel_rfl)
    (of_decide_eq_true (by kernel_rfl)) (by unfold Func.isWrapper; first | (rw [if_pos (by decide +kernel)]; kernel_rfl) | (rw [if_neg (by decide +kernel)]; exact ⟨rfl, rfl⟩))
    (fun os started H enc _ F => by rw [OpenClaim.pre_eq_preRow]; exact lifted os started H enc F)

theorem plain (f : FuncId) (fn : Func) (hf : Tryz.pinned.checked.prog.funcNamed Rows.fileIncludesRow.func = some f) (hfn : Tryz.pinned.checked.prog.funcs[f]? = some fn) :
    false = Tryz.pinned.checked.prog.looks [] ∧ ∀ (j : Nat) t, fn.params[j]? = some t → Tryz.pinned.checked.prog.wantsStandIn t = false := by
  obtain rfl : f = 7 := Option.some.inj ((show Tryz.prog.funcNamed Rows.fileIncludesRow.func = some 7 by kernel_rfl).symm.trans hf) |>.symm
  obtain rfl : fn = Tryz.f7 := (Option.some.inj (Tryz.func7.symm.trans hfn)).symm
  refine ⟨by kernel_rfl, fun j t ht => ?_⟩
  rw [Tryz.params7] at ht
  have hm := Array.mem_of_getElem? ht
  simp at hm
  subst hm
  exact (show Tryz.prog.wantsStandIn 9 = false by kernel_rfl)
theorem card : Rows.FileIncludesCardSaid :=
  Claim7.holds_tied_plain_at .later [] _ _ _ _ said (fun _ h => by cases h) (by kernel_rfl) (fun _ h => by cases h) fileIncludes_row_tie rfl ⟨rfl, rfl⟩ (by kernel_rfl) rfl plain (by kernel_rfl)
end Go.Proofs.YtfgcbdjkimkgpaaGreatDoor.fileIncludes
