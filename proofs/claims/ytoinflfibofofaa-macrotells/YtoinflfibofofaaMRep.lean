/-
  Package macro's replace. Condition: the string has at most 2^32 bytes.
-/
import Derived.Test.YtoinflfibofofaaMFst
import Derived.Test.YtoinflfibofofaaMFn
import Derived.Lib.OthersKept
import Derived.Laws.EntriesVeiled
namespace Go.Proofs.Ytoinflfibofofaa
set_option linter.unusedVariables false
open Go.ChangeShapes Go.WideShapes Go.ChangeAt Go.RowKit Go.Shelf

theorem Bd.lt {B b : Nat} {l : Str} {w : World} (h : Bd B b l w) : b < w.heap.size := by
  rcases h with ⟨_, v, h2, _⟩ | ⟨_, v, h2, _⟩ <;> exact lt_of_block h2
theorem wStrK (B b : Nat) (l x : Str) (w : World) (h : Bd B b l w) (hlen : l.length + x.length ≤ 140737488355328) (hBw : B ≤ w.heap.size) :
    Calls Try.prog 43 #[.pointer (some ⟨b, 0, none⟩), .string (bs x)] w fun e w' => (∃ r, e = .returned r) ∧ Bd B b (l ++ x) w' ∧ Below B w w' ∧ Lib.OthersKept 5 (some b) w w' := by
  refine (Any.Builder_WriteString_k wsL wsX B b (Lib.byteCells l) (bs x) w h (by rw [Lib.byteCells_length, bs_size]; exact hlen) hBw).mono ?_
  rintro e w' ⟨rfl, h1, h2, h3⟩
  refine ⟨⟨_, rfl⟩, .inr ?_, h2, h3⟩
  rw [Lib.byteCells_append, ← bs_list x, ← Lib.strCells_eq]
  exact h1
theorem Bd.setCell {B b k : Nat} {l : Str} {w : World} (h : Bd B b l w) {x u : Value} {t : TypeId} (hk : w.heap[k]? = some (.cells #[x] t (0, 0))) (ht : t ≠ 5) (hne : k ≠ b) : Bd B b l (w.setCell ⟨k, 0, none⟩ u) := by
  have key : ∀ {p}, Lib.BuilderAtF 76 5 B b p (Lib.byteCells l) w → Lib.BuilderAtF 76 5 B b p (Lib.byteCells l) (w.setCell ⟨k, 0, none⟩ u) := by
    rintro p ⟨h1, v, h2, h3, h4⟩
    refine ⟨h1, v, (Below.heap_setCell _ _ _ _ (Ne.symm hne)).trans h2, ⟨h3.1, ?_⟩, h4⟩
    rcases h3.2 with h | ⟨g, cap, cur, fz, hv, hbg, hg, rest⟩
    · exact .inl h
    · refine .inr ⟨g, cap, cur, fz, hv, hbg, (Below.heap_setCell _ _ _ _ ?_).trans hg, rest⟩
      rintro rfl
      rw [hk] at hg
      injection hg with hg
      injection hg with _ e2 _
      exact ht e2
  exact h.elim (fun x => .inl (key x)) (fun x => .inr (key x))

def fT (f : Str → Option Str) : Str → Option Value := fun s => (f s).map fun t => .string (bs t)
/-- what replace keeps: the map's variable, the builder, whether too much has come, the function -/
structure RJ (n mb : Nat) (f : Str → Option Str) (w0 : World) (T : List Tok) (w : World) : Prop where
  hm : w.heap[n]? = some (.cells #[.map (some mb)] 50 (0, 0))
  hf : w.heap[n + 3]? = some (.cells #[.func (.func 41) #[] #[.pointer (some ⟨n + 1, 0, none⟩), .pointer (some ⟨n + 2, 0, none⟩)]] 57 (0, 0))
  hl : ∃ l q, Bd (n + 1) (n + 1) l w ∧ w.heap[n + 2]? = some (.cells #[.bool q] 4 (0, 0)) ∧ l.length ≤ 2000 ∧ ((q = false ∧ l = subD f T) ∨ (q = true ∧ 2000 < (subD f T).length))
  hb : Below n w0 w
  hz : n + 4 ≤ w.heap.size
theorem RJ.later {n mb : Nat} {f : Str → Option Str} {w0 w w' : World} {T : List Tok} (h : RJ n mb f w0 T w) (hb : Below w.heap.size w w') : RJ n mb f w0 T w' := by
  have hz := h.hz
  obtain ⟨l, q, h1, h2, h3⟩ := h.hl
  exact ⟨(hb.block _ (by omega)).trans h.hm, (hb.block _ (by omega)).trans h.hf, ⟨l, q, h1.later hb, (hb.block _ (by omega)).trans h2, h3⟩, h.hb.trans (hb.mono (by omega)), Nat.le_trans hz hb.size⟩
set_option maxHeartbeats 2000000 in
set_option maxRecDepth 100000 in
theorem add_any (n mb : Nat) (f : Str → Option Str) (w0 : World) (x : Str) (T U : List Tok) (w : World) (hx : x.length ≤ 4294967296) (hU : subD f U = x) (h : RJ n mb f w0 T w) :
    Calls Try.prog 41 #[.string (bs x), .pointer (some ⟨n + 1, 0, none⟩), .pointer (some ⟨n + 2, 0, none⟩)] w fun e w' => e = .returned (.tuple #[]) ∧ RJ n mb f w0 (T ++ U) w' := by
  have H := Lib.hid h
  obtain ⟨l, q, h1, h2, h3, h4⟩ := h.hl
  have D1 := Lib.hid h1
  have D2 := Lib.hid h2
  have D4 := Lib.hid h4
  have L := Lib.hid h3
  have BL := Lib.hid (bLen (n + 1) (n + 1) l w h1)
  have sx : (bs x).size = x.length := bs_size x
  have SD : Hid (subD f (T ++ U) = subD f T ++ x) := by show _ = _; rw [subD_append, hU]
  have HX := Lib.hid hx
  clear h h1 h2 h4 hx hU
  by_cases hc : 2000 < l.length + x.length
  · have c2 := free_of_one D2.out
    have c3 := cell_of_one D2.out
    have t1 : decide ((2000 : Int) - (l.length : Int) < (x.length : Int)) = true := decide_eq_true (by omega)
    go_enter Try.func41, Try.ntmps41
    go_wp2_with fail
    refine BL.out.mono ?_
    rintro e w' ⟨rfl, rfl⟩
    go_wp2
    go_returns
    have h := H.out
    refine ⟨rfl, ⟨?_, ?_, ⟨l, true, D1.out.setCell D2.out (by decide) (by omega), one_setCell D2.out, L.out, .inr ⟨rfl, ?_⟩⟩, h.hb.setCell (by show n ≤ n + 2; omega) _, by rw [setCell_size]; exact h.hz⟩⟩
    · exact (Below.heap_setCell _ _ _ _ (by show n ≠ n + 2; omega)).trans h.hm
    · exact (Below.heap_setCell _ _ _ _ (by show n + 3 ≠ n + 2; omega)).trans h.hf
    · rw [SD.out, List.length_append]
      rcases D4.out with ⟨_, e⟩ | ⟨_, e⟩
      · rw [← e]; exact hc
      · omega
  · have t1 : decide ((2000 : Int) - (l.length : Int) < (x.length : Int)) = false := decide_eq_false (by omega)
    have WS := Lib.hid (wStrK (n + 1) (n + 1) l x w D1.out (by omega) (by have := H.out.hz; omega))
    go_enter Try.func41, Try.ntmps41
    go_wp2_with fail
    refine BL.out.mono ?_
    rintro e w' ⟨rfl, rfl⟩
    go_wp2_with fail
    refine WS.out.mono ?_
    rintro e w3 ⟨⟨r, rfl⟩, q1, q2, q3⟩
    have K1 := Lib.hid q1; have K2 := Lib.hid q2; have K3 := Lib.hid q3; clear q1 q2 q3
    go_wp2
    go_returns
    have h := H.out
    have kept : ∀ (k : Nat) (v : Value) (t : TypeId), w'.heap[k]? = some (.cells #[v] t (0, 0)) → k ≠ n + 1 → t ≠ 5 → w3.heap[k]? = some (.cells #[v] t (0, 0)) := by
      intro k v t hk hne ht
      refine K3.out k _ hk (by simpa using hne) ?_
      intro c fz e
      injection e with _ e2 _
      exact ht e2
    refine ⟨rfl, ⟨kept _ _ _ h.hm (by omega) (by decide), kept _ _ _ h.hf (by omega) (by decide), ⟨l ++ x, q, K1.out, kept _ _ _ D2.out (by omega) (by decide), by rw [List.length_append]; omega, ?_⟩, h.hb.trans (K2.out.mono (by omega)), Nat.le_trans h.hz K2.out.size⟩⟩
    rcases D4.out with ⟨e1, e⟩ | ⟨e1, e⟩
    · exact .inl ⟨e1, by rw [SD.out, ← e]⟩
    · exact .inr ⟨e1, by rw [SD.out, List.length_append]; omega⟩
theorem rep1_does (n mb m : Nat) (f : Str → Option Str) (w0 : World) (hm : m ≤ 4294967296) : Does 41 #[.pointer (some ⟨n + 1, 0, none⟩), .pointer (some ⟨n + 2, 0, none⟩)] m (fun _ => True) (fun x => x.map Sum.inl) (RJ n mb f w0) := by
  intro x T w _ hl h
  exact add_any n mb f w0 x T _ w (by omega) (subD_bytes f x) h
set_option maxHeartbeats 1000000 in
theorem rep2_does (n mb m k : Nat) (f : Str → Option Str) (w0 : World) (hn : n = w0.heap.size) (hM : MI mb k (fT f) w0) (hv : ∀ s t, f s = some t → t.length ≤ 4294967296) : Does 44 #[.pointer (some ⟨n + 3, 0, none⟩), .pointer (some ⟨n, 0, none⟩)] m (fun x => good x = true) (fun x => [Sum.inr x]) (RJ n mb f w0) := by
  intro x T w hx hl h
  have c1 := cell_of_one h.hm
  have c2 := cell_of_one h.hf
  have xl : x.length ≤ maxLen := by have := (good_len hx).2; unfold maxLen; omega
  have l1 := (hM.later (hn ▸ h.hb)).look (t := 50) (e := 9) (z := .string (bs [])) (x := x) Try.underlying50 (Try.zeroValue9 w) xl
  rw [show (fT f x).getD (.string (bs [])) = .string (bs ((f x).getD [])) by unfold fT; cases f x <;> rfl] at l1
  have AA := Lib.hid (add_any n mb f w0 ((f x).getD []) T [Sum.inr x] w (by cases e : f x with | none => exact Nat.zero_le _ | some t => exact hv x t e) (by simp [subD]) h)
  clear h hx hl hM hv xl hn
  generalize (f x).getD [] = y at *
  go_enter Try.func44, Try.ntmps44
  go_wp2_with fail
  refine AA.out.mono ?_
  rintro e w' ⟨rfl, h⟩
  have H := Lib.hid h; clear h
  go_wp2
  go_returns
  exact ⟨rfl, H.out⟩
theorem rj_start (mb : Nat) (f : Str → Option Str) (w : World) : RJ w.heap.size mb f w [] ((((w.alloc (.cells #[.map (some mb)] 50)).alloc (.cells #[.pointer none, .slice none 0 0] 76)).alloc (.cells #[.bool false] 4)).alloc (.cells #[.func (.func 41) #[] #[.pointer (some ⟨w.heap.size + 1, 0, none⟩), .pointer (some ⟨w.heap.size + 2, 0, none⟩)]] 57)) := by
  obtain ⟨w1, e1⟩ : ∃ w1, w1 = w.alloc (.cells #[.map (some mb)] 50) := ⟨_, rfl⟩
  have s1 : w1.heap.size = w.heap.size + 1 := by rw [e1]; simp
  have a1 : w1.heap[w.heap.size]? = some (.cells #[.map (some mb)] 50 (0, 0)) := by rw [e1]; exact heap_alloc_new _ _
  have b1 : Below w.heap.size w w1 := by rw [e1]; exact (Below.refl _ _).alloc (Nat.le_refl _) _
  rw [← e1]
  obtain ⟨w2, e2⟩ : ∃ w2, w2 = w1.alloc (.cells #[.pointer none, .slice none 0 0] 76) := ⟨_, rfl⟩
  have s2 : w2.heap.size = w.heap.size + 2 := by rw [e2]; simp; omega
  have d2 : Bd (w.heap.size + 1) (w.heap.size + 1) [] w2 := by rw [e2, ← s1]; exact bd_new w1
  have b2 : Below w1.heap.size w1 w2 := by rw [e2]; exact (Below.refl _ _).alloc (Nat.le_refl _) _
  rw [← e2]
  obtain ⟨w3, e3⟩ : ∃ w3, w3 = w2.alloc (.cells #[.bool false] 4) := ⟨_, rfl⟩
  have s3 : w3.heap.size = w.heap.size + 3 := by rw [e3]; simp; omega
  have a3 : w3.heap[w.heap.size + 2]? = some (.cells #[.bool false] 4 (0, 0)) := by rw [e3, ← s2]; exact heap_alloc_new _ _
  have b3 : Below w2.heap.size w2 w3 := by rw [e3]; exact (Below.refl _ _).alloc (Nat.le_refl _) _
  rw [← e3]
  have b4 : ∀ o, Below w3.heap.size w3 (w3.alloc o) := fun o => (Below.refl _ _).alloc (Nat.le_refl _) _
  refine ⟨?_, ?_, ⟨[], false, (d2.later b3).later (b4 _), ((b4 _).block _ (by omega)).trans a3, Nat.zero_le _, .inl ⟨rfl, rfl⟩⟩, ((b1.trans (b2.mono (by omega))).trans (b3.mono (by omega))).trans ((b4 _).mono (by omega)), by simp; omega⟩
  · exact ((b4 _).block _ (by omega)).trans ((b3.block _ (by omega)).trans ((b2.block _ (by omega)).trans a1))
  · rw [← s3]; exact heap_alloc_new _ _
/-- what replace hands back -/
def RPost (s : Str) (f : Str → Option Str) (w : World) (e : Ending) (w' : World) : Prop :=
  Below w.heap.size w w' ∧ ((tk none s = none ∧ e = .returned (.tuple #[.string (bs []), .int .i64 3])) ∨ ∃ T, tk none s = some T ∧
    ((2000 < (subD f T).length ∧ e = .returned (.tuple #[.string (bs []), .int .i64 2])) ∨ ((subD f T).length ≤ 2000 ∧ e = .returned (.tuple #[.string (bs (subD f T)), .int .i64 0]))))
set_option maxHeartbeats 2000000 in
set_option maxRecDepth 100000 in
theorem rep_any (s : Str) (mb k : Nat) (f : Str → Option Str) (w : World) (hs : s.length ≤ 4294967296) (hM : MI mb k (fT f) w) (hv : ∀ s t, f s = some t → t.length ≤ 4294967296) :
    Calls Try.prog 27 #[.string (bs s), .map (some mb)] w (RPost s f w) := by
  have J0 := Lib.hid (rj_start mb f w)
  have R2 := Lib.hid (rep2_does w.heap.size mb s.length k f w rfl hM hv)
  have HS := Lib.hid hs
  clear hs hM hv
  go_enter Try.func27, Try.ntmps27
  go_wp2_with fail
  refine (each_any s _ _ _ _ (RJ w.heap.size mb f w) _ HS.out Try.call41 Try.call44 (fun _ _ _ => RJ.later) (rep1_does _ _ _ _ _ HS.out) R2.out J0.out).mono ?_
  rintro e w1 (⟨T, h1, rfl, h2⟩ | ⟨h1, rfl, T, h2⟩)
  · obtain ⟨l, q, d1, d2, d3, d4⟩ := h2.hl
    have c1 := cell_of_one d2
    have H1 := Lib.hid h1
    have H2 := Lib.hid h2.hb
    have Z1 : Hid (w.heap.size + 1 ≤ w1.heap.size) := by have := h2.hz; show _ ≤ _; omega
    rcases d4 with ⟨rfl, rfl⟩ | ⟨rfl, d4⟩
    · have D3 := Lib.hid d3
      have D1 := Lib.hid d1
      clear h1 h2 d1 d2 d3
      go_wp2_with fail
      refine (bStr _ _ _ _ D1.out Z1.out).mono ?_
      rintro e w2 ⟨rfl, hb⟩
      have B2 := Lib.hid hb; clear hb
      go_wp2
      go_ret2
      exact ⟨H2.out.trans (B2.out.mono (by omega)), .inr ⟨T, H1.out, .inr ⟨D3.out, rfl⟩⟩⟩
    · have D4 := Lib.hid d4
      clear h1 h2 d1 d2 d3 d4
      go_wp2
      go_ret2
      exact ⟨H2.out, .inr ⟨T, H1.out, .inl ⟨D4.out, rfl⟩⟩⟩
  · have H1 := Lib.hid h1
    have H2 := Lib.hid h2.hb
    clear h1 h2
    go_wp2
    go_ret2
    exact ⟨H2.out, .inl ⟨H1.out, rfl⟩⟩
end Go.Proofs.Ytoinflfibofofaa
