/-
  Package macro's Uses. Condition: the string has at most 2^32 bytes.
-/
import Derived.Test.YtoinflfibofofaaMEach
import Derived.OneCell
import Derived.OwnWalk
namespace Go.Proofs.Ytoinflfibofofaa
set_option linter.unusedVariables false
open Go.ChangeShapes Go.WideShapes Go.ChangeAt Go.RowKit

def fS (l : List Str) : Str → Option Value := fun s => if l.contains s then some (.bool true) else none
theorem fS_upd (l : List Str) (x : Str) (s : Str) : upd (fS l) x (.bool true) s = fS (l ++ [x]) s := by
  unfold upd fS
  by_cases h : s = x
  · subst h; simp
  · simp [h]
/-- what Uses keeps: the slice, the map, the map's variable -/
structure UJ (n : Nat) (w0 : World) (T : List Tok) (w : World) : Prop where
  hu : ∃ v, w.heap[n]? = some (.cells #[v] 32 (0, 0)) ∧ SO (n + 3) v (dd T) w
  hm : MI (n + 1) T.length (fS (dd T)) w
  hc : w.heap[n + 2]? = some (.cells #[.map (some (n + 1))] 55 (0, 0))
  hb : Below n w0 w
  hz : n + 3 ≤ w.heap.size
  hg : ∀ x ∈ dd T, good x = true
theorem UJ.later {n : Nat} {w0 w w' : World} {T : List Tok} (h : UJ n w0 T w) (hb : Below w.heap.size w w') : UJ n w0 T w' := by
  obtain ⟨v, h1, h2⟩ := h.hu
  have hz := h.hz
  refine ⟨⟨v, (hb.block _ (by omega)).trans h1, ?_⟩, h.hm.later hb, (hb.block _ (by omega)).trans h.hc, h.hb.trans (hb.mono (by omega)), Nat.le_trans h.hz hb.size, h.hg⟩
  refine World.ownsRow.kept (row := none) h2 ⟨hb.os, hb.tape, hb.output, hb.size, fun k hk _ => hb.block k hk⟩ ?_
  cases e : v.ownBlock <;> simp
theorem setCell_size (w : World) (a : Addr) (u : Value) : (w.setCell a u).heap.size = w.heap.size := Array.size_modify
theorem own_shape {w : World} {base size m : Nat} {e : TypeId} {v : Value} {xs : List Value} (h : w.ownsRow base e size v m xs) : ∃ a l c, v = .slice a l c := by
  rcases h.2 with ⟨h, _⟩ | ⟨g, cap, cur, h, _⟩
  · exact ⟨_, _, _, h⟩
  · exact ⟨_, _, _, h⟩
theorem grown_block {w1 w4 : World} {n k : Nat} {o o' : Obj} {v : Value} (h : w1.heap[n]? = some o) (g : (w1.alloc o').grownBy w4 v.ownBlock) (hv : ∀ j, v.ownBlock = some j → k ≤ j) (hn : n < k) : w4.heap[n]? = some o := by
  have hlt := lt_of_block h
  refine (g.block n (by simp; omega) (fun e => ?_)).trans ((Below.heap_alloc w1 o' n hlt).trans h)
  have := hv n e.symm
  omega
theorem ent_u1 : Ent 29 := Try.call29
theorem ent_u2 : Ent 30 := Try.call30
theorem uses1_does (n m : Nat) (w0 : World) : Does 29 #[] m (fun _ => True) (fun x => x.map Sum.inl) (UJ n w0) := by
  intro x T w _ _ h
  have HJ := Lib.hid h; clear h
  go_enter Try.func29, Try.ntmps29
  go_wp2
  go_end0
  have h := HJ.out
  exact ⟨rfl, ⟨by rw [dd_bytes]; exact h.hu, by rw [dd_bytes]; exact h.hm.mono (by simp), h.hc, h.hb, h.hz, by rw [dd_bytes]; exact h.hg⟩⟩
set_option maxHeartbeats 2000000 in
set_option maxRecDepth 100000 in
theorem uses2_does (n m : Nat) (w0 : World) (hm : m ≤ 4294967296) : Does 30 #[.pointer (some ⟨n + 2, 0, none⟩), .pointer (some ⟨n, 0, none⟩)] m (fun x => good x = true) (fun x => [Sum.inr x]) (UJ n w0) := by
  intro x T w hx hlen h
  have HJ := Lib.hid h
  have HX := Lib.hid hx
  have xl : x.length ≤ maxLen := by have := (good_len hx).2; unfold maxLen; omega
  obtain ⟨v, c0, own⟩ := h.hu
  have ML := Lib.hid hm
  have TL := Lib.hid hlen
  have cc := cell_of_one h.hc
  by_cases hin : (dd T).contains x = true
  · have l0 := h.hm.look (t := 55) (e := 4) (z := .bool false) (x := x) Try.underlying55 (Try.zeroValue4 w) xl
    rw [show (fS (dd T) x).getD (.bool false) = .bool true by unfold fS; rw [if_pos hin]; rfl] at l0
    have HI := Lib.hid hin
    clear hin h hx xl c0 own hm hlen
    go_enter Try.func30, Try.ntmps30
    go_wp2
    go_end0
    have h := HJ.out
    have e : dd (T ++ [Sum.inr x]) = dd T := by rw [dd_snoc, if_pos HI.out]
    exact ⟨rfl, ⟨by rw [e]; exact h.hu, by rw [e]; exact h.hm.mono (by simp), h.hc, h.hb, h.hz, by rw [e]; exact h.hg⟩⟩
  · have l0 := h.hm.look (t := 55) (e := 4) (z := .bool false) (x := x) Try.underlying55 (Try.zeroValue4 w) xl
    rw [show (fS (dd T) x).getD (.bool false) = .bool false by unfold fS; rw [if_neg hin]; rfl] at l0
    have HI := Lib.hid hin
    obtain ⟨w1, l1, m1, g1, z1⟩ := h.hm.store (t := 55) (e := 4) (x := x) Try.underlying55 (by unfold maxLen; omega) xl (.bool true)
    have hz := h.hz
    have b1 : w1.heap[n]? = some (.cells #[v] 32 (0, 0)) := (g1.block n (by omega) (by simp)).trans c0
    have c1 := cell_of_one b1
    have k1 : w1.heap[n + 2]? = some (.cells #[.map (some (n + 1))] 55 (0, 0)) := (g1.block (n + 2) (by omega) (by simp)).trans h.hc
    have LV : Hid (∀ k, v.ownBlock = some k → n + 3 ≤ k) := fun k hk => (own.lt k hk).1
    have O1 : Hid (SO (n + 3) v (dd T) w1) := own.kept g1 (by cases e : v.ownBlock with | none => exact .inl rfl | some k => right; intro h; injection h with h; have := (own.lt k e).1; omega)
    have OA : Hid (∀ o, (w1.alloc o).ownsRow (n + 3) 9 1 v (dd T).length ((dd T).map encStr)) := fun o => O1.out.alloc o
    have SA : Hid (∀ o, n + 3 ≤ (w1.alloc o).heap.size) := fun o => by
      have : (w1.alloc o).heap.size = w1.heap.size + 1 := by simp
      omega
    have DL : Hid ((dd T).length + 1 ≤ 4294967296) := by have h1 := dd_le T; have h2 := (good_len hx).1; show _ ≤ _; omega
    have M1 := Lib.hid m1
    have Z1 := Lib.hid z1
    have B1 := Lib.hid b1
    have K1 := Lib.hid k1
    have BW : Hid (Below n w0 w1) := h.hb.grown g1 (by omega) (fun k hk => by injection hk with hk; omega)
    obtain ⟨i0, hi, hz0, hz1, hz2⟩ := info_parts infoStr
    have IH := Lib.hid hi
    have cc1 := cell_of_one k1
    clear hin h hx xl c0 own hm hlen m1 z1 b1 k1 g1 hz hi
    go_enter Try.func30, Try.ntmps30
    go_wp2_with (at_builtin; go_must (refine wpList_append_own _ rfl (.tmp 10) (.tmp 12) 32 rfl (n + 3) 9 i0 (.string ByteArray.empty) 1 16 Try.underlying32 IH.out hz0 hz1 hz2 rfl (by decide) _ _ _ rfl (OA.out _) ⟨w1.heap.size, 0, none⟩ 1 1 [.string (bs x)] rfl rfl (cell_one' _ _ _) (by intro u hu; simp at hu; rcases hu with rfl; rfl) (by unfold maxLen; have := DL.out; omega) (by have := DL.out; omega) (SA.out _) ?_; intro v4 w4 q1 q2 q3; obtain ⟨a4, n4, cp4, rfl⟩ := own_shape q1; have O4 := Lib.hid q1; have G4 := Lib.hid q2; have b4 : w4.heap[n]? = some (.cells #[v] 32 (0, 0)) := grown_block B1.out q2 LV.out (by omega); have c4 := cell_of_one b4; have f4 := free_of_one b4; have B4 := Lib.hid b4; clear q1 q2 q3 b4))
    go_end0
    have h := HJ.out
    have e : dd (T ++ [Sum.inr x]) = dd T ++ [x] := by rw [dd_snoc, if_neg HI.out]
    have hb : ∀ j, (Value.slice a4 n4 cp4).ownBlock = some j → n + 3 ≤ j := fun j hj => (O4.out.lt j hj).1
    refine ⟨rfl, ⟨⟨_, one_setCell B4.out, ?_⟩, ?_, ?_, ?_, ?_, ?_⟩⟩
    · rw [e]
      exact ownsRow_setCell_other (SO.snoc O4.out) (fun hh => by have := hb _ hh; simp at this; omega) _
    · rw [e, List.length_append]
      refine MI.setCell (MI.congr ?_ (fS_upd (dd T) x)) (by simp) _
      exact (M1.out.alloc _).grown G4.out (fun hh => by have := LV.out _ hh.symm; omega)
    · exact (Below.heap_setCell _ _ _ _ (by simp)).trans (grown_block K1.out G4.out LV.out (by omega))
    · exact ((BW.out.alloc (by have := Z1.out; have := h.hz; omega) _).grown G4.out (by have := SA.out (.cells #[.string (bs x)] 9); omega) (fun k hk => by have := LV.out k hk; omega)).setCell (by simp) _
    · have h1 := G4.out.size
      have h2 := SA.out (.cells #[.string (bs x)] 9)
      show n + 3 ≤ _
      rw [setCell_size]
      omega
    · rw [e]
      intro y hy
      rcases List.mem_append.1 hy with hy | hy
      · exact h.hg y hy
      · rw [List.mem_singleton.1 hy]; exact HX.out

theorem uj_start (w : World) : UJ w.heap.size w [] (((w.alloc (.cells #[.slice none 0 0] 32)).alloc (.map #[] 0)).alloc (.cells #[.map (some (w.heap.size + 1))] 55)) := by
  obtain ⟨w1, e1⟩ : ∃ w1, w1 = w.alloc (.cells #[.slice none 0 0] 32) := ⟨_, rfl⟩
  have s1 : w1.heap.size = w.heap.size + 1 := by rw [e1]; simp
  have a1 : w1.heap[w.heap.size]? = some (.cells #[.slice none 0 0] 32 (0, 0)) := by rw [e1]; exact heap_alloc_new _ _
  have b1 : Below w.heap.size w w1 := by rw [e1]; exact (Below.refl _ _).alloc (Nat.le_refl _) _
  rw [← e1]
  obtain ⟨w2, e2⟩ : ∃ w2, w2 = w1.alloc (.map #[] 0) := ⟨_, rfl⟩
  have s2 : w2.heap.size = w.heap.size + 2 := by rw [e2]; simp; omega
  have a2 : w2.heap[w.heap.size]? = some (.cells #[.slice none 0 0] 32 (0, 0)) := by rw [e2]; exact (Below.heap_alloc _ _ _ (by omega)).trans a1
  have b2 : Below w.heap.size w w2 := by rw [e2]; exact b1.alloc (by omega) _
  have m2 : MI (w.heap.size + 1) 0 (fun _ => none) w2 := by rw [e2, ← s1]; exact MI.made _
  rw [← e2]
  refine ⟨⟨_, (Below.heap_alloc _ _ _ (by omega)).trans a2, World.ownsRow_nil _ _ _ _⟩, (m2.alloc _).congr (fun s => rfl), ?_, b2.alloc (by omega) _, by simp; omega, fun x hx => absurd hx List.not_mem_nil⟩
  rw [← s2]
  exact heap_alloc_new _ _
theorem tk_len : ∀ (s : Str) (m : Option (Option Str)) (T : List Tok), tk m s = some T → T.length ≤ s.length
  | [], none, T, h => by simp only [tk, Option.some.injEq] at h; subst h; simp
  | [], some _, T, h => by simp [tk] at h
  | c :: r, none, T, h => by
    simp only [tk] at h
    split at h
    · have := tk_len r _ _ h; simp; omega
    · cases hr : tk none r with
      | none => rw [hr] at h; cases h
      | some x => rw [hr] at h; cases h; have := tk_len r _ _ hr; simp; omega
  | c :: r, some none, T, h => by
    simp only [tk] at h
    split at h
    · cases hr : tk none r with
      | none => rw [hr] at h; cases h
      | some x => rw [hr] at h; cases h; have := tk_len r _ _ hr; simp; omega
    · split at h
      · have := tk_len r _ _ h; simp; omega
      · cases h
  | c :: r, some (some a), T, h => by
    simp only [tk] at h
    split at h
    · split at h
      · cases hr : tk none r with
        | none => rw [hr] at h; cases h
        | some x => rw [hr] at h; cases h; have := tk_len r _ _ hr; simp; omega
      · cases h
    · have := tk_len r _ _ h; simp; omega
/-- what Uses hands back -/
def UPost (s : Str) (w : World) (e : Ending) (w' : World) : Prop :=
  Below w.heap.size w w' ∧ ((∃ T v, tk none s = some T ∧ e = .returned (.tuple #[v, .int .i64 0]) ∧ SIn w' v (dd T) ∧ ∀ x ∈ dd T, good x = true) ∨ (tk none s = none ∧ e = .returned (.tuple #[.slice none 0 0, .int .i64 3])))
set_option maxHeartbeats 2000000 in
set_option maxRecDepth 100000 in
theorem uses_any (s : Str) (w : World) (hs : s.length ≤ 4294967296) : Calls Try.prog 11 #[.string (bs s)] w (UPost s w) := by
  have HS := Lib.hid hs; clear hs
  have hmm := @run_makeMap Try.prog
  have J0 := Lib.hid (uj_start w)
  go_enter Try.func11, Try.ntmps11
  go_wp2_with fail
  refine (each_any s _ _ _ _ (UJ w.heap.size w) _ HS.out ent_u1 ent_u2 (fun _ _ _ => UJ.later) (uses1_does _ _ _) (uses2_does _ _ _ HS.out) J0.out).mono ?_
  rintro e w1 (⟨T, h1, rfl, h2⟩ | ⟨h1, rfl, T, h2⟩)
  · obtain ⟨v, b1, o1⟩ := h2.hu
    have c1 := cell_of_one b1
    have H1 := Lib.hid h1
    have H2 := Lib.hid h2
    have TL := Lib.hid (tk_len _ _ _ h1)
    have O1 := Lib.hid o1
    clear h1 h2 b1 o1 hmm
    go_wp2
    go_ret2
    have g := H2.out.hg
    have l1 := dd_le T
    have l2 := TL.out
    have l3 := HS.out
    exact ⟨H2.out.hb, .inl ⟨T, v, H1.out, rfl, SIn.own O1.out (by omega) (fun x hx => by have := (good_len (g x hx)).2; omega), g⟩⟩
  · have H1 := Lib.hid h1
    have H2 := Lib.hid h2.hb
    clear h1 h2 hmm
    go_wp2
    go_ret2
    exact ⟨H2.out, .inr ⟨H1.out, rfl⟩⟩
end Go.Proofs.Ytoinflfibofofaa
