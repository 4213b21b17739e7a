/-
  Package macro's replace. Condition: the string has at most 2^32 bytes.
  Macros that have a fault have no expansions: in plain words. No condition.
  Package macro's expandAll and Expand. Condition: the strings have at most 2^32 bytes.
  What the laws' own macros answers. No condition.
  The library's functions that package line calls, as their contracts say: Builder, Trim, TrimLeft, TrimRight, CutSuffix, TrimSuffix, Split, ReplaceAll. Condition: the strings are shorter than 2^32 bytes.
  What package line's mayOccur, physicalLines, quoted, uncommented answer. Condition: the strings are shorter than 2^32 bytes.
  What package line's uncommented answers. Condition: the string is shorter than 2^32 bytes.
  What package line's joinContinued answers. Condition: the lines have together at most 2^40 bytes.
-/
import Derived.Test.YtebjofffijnihaaGreatDoorGc5MBy
import Derived.Test.YtebjofffijnihaaGreatDoorGc4LIn
import Derived.Lib.OthersKept
import Derived.Laws.EntriesVeiled
import Derived.Shelf.Strings.SlTrimAscii
import Derived.WalkMore
namespace Go.Proofs.YtebjofffijnihaaGreatDoor
set_option maxRecDepth 100000
set_option linter.unusedVariables false
open Go.ChangeShapes Go.WideShapes Go.ChangeAt Go.RowKit Go.Shelf

theorem Bd.lt {B b : Nat} {l : Str} {w : World} (h : Bd B b l w) : b < w.heap.size := by
  rcases h with ⟨_, v, h2, _⟩ | ⟨_, v, h2, _⟩ <;> exact lt_of_block h2
theorem wStrK (B b : Nat) (l x : Str) (w : World) (h : Bd B b l w) (hlen : l.length + x.length ≤ 140737488355328) (hBw : B ≤ w.heap.size) :
    Calls Tryz.prog 84 #[.pointer (some ⟨b, 0, none⟩), .string (bs x)] w fun e w' => (∃ r, e = .returned r) ∧ Bd B b (l ++ x) w' ∧ Below B w w' ∧ Lib.OthersKept 5 (some b) w w' := by
  refine (Any.Builder_WriteString_k wsL wsX B b (Lib.byteCells l) (bs x) w h (by rw [Lib.byteCells_length, bs_size]; exact hlen) hBw).mono ?_
  rintro e w' ⟨rfl, h1, h2, h3⟩
  refine ⟨⟨_, rfl⟩, .inr ?_, h2, h3⟩
  rw [Lib.byteCells_append, ← bs_list x, ← Lib.strCells_eq]
  exact h1
theorem Bd.setCell {B b k : Nat} {l : Str} {w : World} (h : Bd B b l w) {x u : Value} {t : TypeId} (hk : w.heap[k]? = some (.cells #[x] t (0, 0))) (ht : t ≠ 5) (hne : k ≠ b) : Bd B b l (w.setCell ⟨k, 0, none⟩ u) := by
  have key : ∀ {p}, Lib.BuilderAtF 134 5 B b p (Lib.byteCells l) w → Lib.BuilderAtF 134 5 B b p (Lib.byteCells l) (w.setCell ⟨k, 0, none⟩ u) := by
    rintro p ⟨h1, v, h2, h3, h4⟩
    refine ⟨h1, v, (Below.heap_setCell _ _ _ _ (Ne.symm hne)).trans h2, ⟨h3.1, ?_⟩, h4⟩
    rcases h3.2 with h | ⟨g, cap, cur, fz, hv, hbg, hg, rest⟩
    · exact .inl h
    · refine .inr ⟨g, cap, cur, fz, hv, hbg, (Below.heap_setCell _ _ _ _ ?_).trans hg, rest⟩
      rintro rfl
      rw [hk] at hg
      injection hg with hg
      injection hg with _ e2 _
      exact ht e2
  exact h.elim (fun x => .inl (key x)) (fun x => .inr (key x))

def fT (f : Str → Option Str) : Str → Option Value := fun s => (f s).map fun t => .string (bs t)
/-- what replace keeps: the map's variable, the builder, whether too much has come, the function -/
structure RJ (n mb : Nat) (f : Str → Option Str) (w0 : World) (T : List Tok) (w : World) : Prop where
  hm : w.heap[n]? = some (.cells #[.map (some mb)] 142 (0, 0))
  hf : w.heap[n + 3]? = some (.cells #[.func (.func 138) #[] #[.pointer (some ⟨n + 1, 0, none⟩), .pointer (some ⟨n + 2, 0, none⟩)]] 193 (0, 0))
  hl : ∃ l q, Bd (n + 1) (n + 1) l w ∧ w.heap[n + 2]? = some (.cells #[.bool q] 4 (0, 0)) ∧ l.length ≤ 2000 ∧ ((q = false ∧ l = subD f T) ∨ (q = true ∧ 2000 < (subD f T).length))
  hb : Below n w0 w
  hz : n + 4 ≤ w.heap.size
theorem RJ.later {n mb : Nat} {f : Str → Option Str} {w0 w w' : World} {T : List Tok} (h : RJ n mb f w0 T w) (hb : Below w.heap.size w w') : RJ n mb f w0 T w' := by
  have hz := h.hz
  obtain ⟨l, q, h1, h2, h3⟩ := h.hl
  exact ⟨(hb.block _ (by omega)).trans h.hm, (hb.block _ (by omega)).trans h.hf, ⟨l, q, h1.later hb, (hb.block _ (by omega)).trans h2, h3⟩, h.hb.trans (hb.mono (by omega)), Nat.le_trans hz hb.size⟩
set_option maxHeartbeats 2000000 in
set_option maxRecDepth 100000 in
theorem add_any (n mb : Nat) (f : Str → Option Str) (w0 : World) (x : Str) (T U : List Tok) (w : World) (hx : x.length ≤ 4294967296) (hU : subD f U = x) (h : RJ n mb f w0 T w) :
    Calls Tryz.prog 138 #[.string (bs x), .pointer (some ⟨n + 1, 0, none⟩), .pointer (some ⟨n + 2, 0, none⟩)] w fun e w' => e = .returned (.tuple #[]) ∧ RJ n mb f w0 (T ++ U) w' := by
  have H := Lib.hid h
  obtain ⟨l, q, h1, h2, h3, h4⟩ := h.hl
  have D1 := Lib.hid h1
  have D2 := Lib.hid h2
  have D4 := Lib.hid h4
  have L := Lib.hid h3
  have BL := Lib.hid (bLen (n + 1) (n + 1) l w h1)
  have sx : (bs x).size = x.length := bs_size x
  have SD : Hid (subD f (T ++ U) = subD f T ++ x) := by show _ = _; rw [subD_append, hU]
  have HX := Lib.hid hx
  clear h h1 h2 h4 hx hU
  by_cases hc : 2000 < l.length + x.length
  · have c2 := free_of_one D2.out
    have c3 := cell_of_one D2.out
    have t1 : decide ((2000 : Int) - (l.length : Int) < (x.length : Int)) = true := decide_eq_true (by omega)
    go_enter Tryz.func138, Tryz.ntmps138
    go_wp2_with fail
    refine BL.out.mono ?_
    rintro e w' ⟨rfl, rfl⟩
    go_wp2
    go_returns
    have h := H.out
    refine ⟨rfl, ⟨?_, ?_, ⟨l, true, D1.out.setCell D2.out (by decide) (by omega), one_setCell D2.out, L.out, .inr ⟨rfl, ?_⟩⟩, h.hb.setCell (by show n ≤ n + 2; omega) _, by rw [setCell_size]; exact h.hz⟩⟩
    · exact (Below.heap_setCell _ _ _ _ (by show n ≠ n + 2; omega)).trans h.hm
    · exact (Below.heap_setCell _ _ _ _ (by show n + 3 ≠ n + 2; omega)).trans h.hf
    · rw [SD.out, List.length_append]
      rcases D4.out with ⟨_, e⟩ | ⟨_, e⟩
      · rw [← e]; exact hc
      · omega
  · have t1 : decide ((2000 : Int) - (l.length : Int) < (x.length : Int)) = false := decide_eq_false (by omega)
    have WS := Lib.hid (wStrK (n + 1) (n + 1) l x w D1.out (by omega) (by have := H.out.hz; omega))
    go_enter Tryz.func138, Tryz.ntmps138
    go_wp2_with fail
    refine BL.out.mono ?_
    rintro e w' ⟨rfl, rfl⟩
    go_wp2_with fail
    refine WS.out.mono ?_
    rintro e w3 ⟨⟨r, rfl⟩, q1, q2, q3⟩
    have K1 := Lib.hid q1; have K2 := Lib.hid q2; have K3 := Lib.hid q3; clear q1 q2 q3
    go_wp2
    go_returns
    have h := H.out
    have kept : ∀ (k : Nat) (v : Value) (t : TypeId), w'.heap[k]? = some (.cells #[v] t (0, 0)) → k ≠ n + 1 → t ≠ 5 → w3.heap[k]? = some (.cells #[v] t (0, 0)) := by
      intro k v t hk hne ht
      refine K3.out k _ hk (by simpa using hne) ?_
      intro c fz e
      injection e with _ e2 _
      exact ht e2
    refine ⟨rfl, ⟨kept _ _ _ h.hm (by omega) (by decide), kept _ _ _ h.hf (by omega) (by decide), ⟨l ++ x, q, K1.out, kept _ _ _ D2.out (by omega) (by decide), by rw [List.length_append]; omega, ?_⟩, h.hb.trans (K2.out.mono (by omega)), Nat.le_trans h.hz K2.out.size⟩⟩
    rcases D4.out with ⟨e1, e⟩ | ⟨e1, e⟩
    · exact .inl ⟨e1, by rw [SD.out, ← e]⟩
    · exact .inr ⟨e1, by rw [SD.out, List.length_append]; omega⟩
theorem rep1_does (n mb m : Nat) (f : Str → Option Str) (w0 : World) (hm : m ≤ 4294967296) : Does 138 #[.pointer (some ⟨n + 1, 0, none⟩), .pointer (some ⟨n + 2, 0, none⟩)] m (fun _ => True) (fun x => x.map Sum.inl) (RJ n mb f w0) := by
  intro x T w _ hl h
  exact add_any n mb f w0 x T _ w (by omega) (subD_bytes f x) h
set_option maxHeartbeats 1000000 in
theorem rep2_does (n mb m k : Nat) (f : Str → Option Str) (w0 : World) (hn : n = w0.heap.size) (hM : MI mb k (fT f) w0) (hv : ∀ s t, f s = some t → t.length ≤ 4294967296) : Does 141 #[.pointer (some ⟨n + 3, 0, none⟩), .pointer (some ⟨n, 0, none⟩)] m (fun x => good x = true) (fun x => [Sum.inr x]) (RJ n mb f w0) := by
  intro x T w hx hl h
  have c1 := cell_of_one h.hm
  have c2 := cell_of_one h.hf
  have xl : x.length ≤ maxLen := by have := (good_len hx).2; unfold maxLen; omega
  have l1 := (hM.later (hn ▸ h.hb)).look (t := 142) (e := 9) (z := .string (bs [])) (x := x) Tryz.underlying142 (Tryz.zeroValue9 w) xl
  rw [show (fT f x).getD (.string (bs [])) = .string (bs ((f x).getD [])) by unfold fT; cases f x <;> rfl] at l1
  have AA := Lib.hid (add_any n mb f w0 ((f x).getD []) T [Sum.inr x] w (by cases e : f x with | none => exact Nat.zero_le _ | some t => exact hv x t e) (by simp [subD]) h)
  clear h hx hl hM hv xl hn
  generalize (f x).getD [] = y at *
  go_enter Tryz.func141, Tryz.ntmps141
  go_wp2_with fail
  refine AA.out.mono ?_
  rintro e w' ⟨rfl, h⟩
  have H := Lib.hid h; clear h
  go_wp2
  go_returns
  exact ⟨rfl, H.out⟩
theorem rj_start (mb : Nat) (f : Str → Option Str) (w : World) : RJ w.heap.size mb f w [] ((((w.alloc (.cells #[.map (some mb)] 142)).alloc (.cells #[.pointer none, .slice none 0 0] 134)).alloc (.cells #[.bool false] 4)).alloc (.cells #[.func (.func 138) #[] #[.pointer (some ⟨w.heap.size + 1, 0, none⟩), .pointer (some ⟨w.heap.size + 2, 0, none⟩)]] 193)) := by
  obtain ⟨w1, e1⟩ : ∃ w1, w1 = w.alloc (.cells #[.map (some mb)] 142) := ⟨_, rfl⟩
  have s1 : w1.heap.size = w.heap.size + 1 := by rw [e1]; simp
  have a1 : w1.heap[w.heap.size]? = some (.cells #[.map (some mb)] 142 (0, 0)) := by rw [e1]; exact heap_alloc_new _ _
  have b1 : Below w.heap.size w w1 := by rw [e1]; exact (Below.refl _ _).alloc (Nat.le_refl _) _
  rw [← e1]
  obtain ⟨w2, e2⟩ : ∃ w2, w2 = w1.alloc (.cells #[.pointer none, .slice none 0 0] 134) := ⟨_, rfl⟩
  have s2 : w2.heap.size = w.heap.size + 2 := by rw [e2]; simp; omega
  have d2 : Bd (w.heap.size + 1) (w.heap.size + 1) [] w2 := by rw [e2, ← s1]; exact bd_new w1
  have b2 : Below w1.heap.size w1 w2 := by rw [e2]; exact (Below.refl _ _).alloc (Nat.le_refl _) _
  rw [← e2]
  obtain ⟨w3, e3⟩ : ∃ w3, w3 = w2.alloc (.cells #[.bool false] 4) := ⟨_, rfl⟩
  have s3 : w3.heap.size = w.heap.size + 3 := by rw [e3]; simp; omega
  have a3 : w3.heap[w.heap.size + 2]? = some (.cells #[.bool false] 4 (0, 0)) := by rw [e3, ← s2]; exact heap_alloc_new _ _
  have b3 : Below w2.heap.size w2 w3 := by rw [e3]; exact (Below.refl _ _).alloc (Nat.le_refl _) _
  rw [← e3]
  have b4 : ∀ o, Below w3.heap.size w3 (w3.alloc o) := fun o => (Below.refl _ _).alloc (Nat.le_refl _) _
  refine ⟨?_, ?_, ⟨[], false, (d2.later b3).later (b4 _), ((b4 _).block _ (by omega)).trans a3, Nat.zero_le _, .inl ⟨rfl, rfl⟩⟩, ((b1.trans (b2.mono (by omega))).trans (b3.mono (by omega))).trans ((b4 _).mono (by omega)), by simp; omega⟩
  · exact ((b4 _).block _ (by omega)).trans ((b3.block _ (by omega)).trans ((b2.block _ (by omega)).trans a1))
  · rw [← s3]; exact heap_alloc_new _ _
/-- what replace hands back -/
def RPost (s : Str) (f : Str → Option Str) (w : World) (e : Ending) (w' : World) : Prop :=
  Below w.heap.size w w' ∧ ((tk none s = none ∧ e = .returned (.tuple #[.string (bs []), .int .i64 3])) ∨ ∃ T, tk none s = some T ∧
    ((2000 < (subD f T).length ∧ e = .returned (.tuple #[.string (bs []), .int .i64 2])) ∨ ((subD f T).length ≤ 2000 ∧ e = .returned (.tuple #[.string (bs (subD f T)), .int .i64 0]))))
set_option maxHeartbeats 2000000 in
set_option maxRecDepth 100000 in
theorem rep_any (s : Str) (mb k : Nat) (f : Str → Option Str) (w : World) (hs : s.length ≤ 4294967296) (hM : MI mb k (fT f) w) (hv : ∀ s t, f s = some t → t.length ≤ 4294967296) :
    Calls Tryz.prog 114 #[.string (bs s), .map (some mb)] w (RPost s f w) := by
  have J0 := Lib.hid (rj_start mb f w)
  have R2 := Lib.hid (rep2_does w.heap.size mb s.length k f w rfl hM hv)
  have HS := Lib.hid hs
  clear hs hM hv
  go_enter Tryz.func114, Tryz.ntmps114
  go_wp2_with fail
  refine (each_any s _ _ _ _ (RJ w.heap.size mb f w) _ HS.out Tryz.call138 Tryz.call141 (fun _ _ _ => RJ.later) (rep1_does _ _ _ _ _ HS.out) R2.out J0.out).mono ?_
  rintro e w1 (⟨T, h1, rfl, h2⟩ | ⟨h1, rfl, T, h2⟩)
  · obtain ⟨l, q, d1, d2, d3, d4⟩ := h2.hl
    have c1 := cell_of_one d2
    have H1 := Lib.hid h1
    have H2 := Lib.hid h2.hb
    have Z1 : Hid (w.heap.size + 1 ≤ w1.heap.size) := by have := h2.hz; show _ ≤ _; omega
    rcases d4 with ⟨rfl, rfl⟩ | ⟨rfl, d4⟩
    · have D3 := Lib.hid d3
      have D1 := Lib.hid d1
      clear h1 h2 d1 d2 d3
      go_wp2_with fail
      refine (bStr _ _ _ _ D1.out Z1.out).mono ?_
      rintro e w2 ⟨rfl, hb⟩
      have B2 := Lib.hid hb; clear hb
      go_wp2
      go_ret2
      exact ⟨H2.out.trans (B2.out.mono (by omega)), .inr ⟨T, H1.out, .inr ⟨D3.out, rfl⟩⟩⟩
    · have D4 := Lib.hid d4
      clear h1 h2 d1 d2 d3 d4
      go_wp2
      go_ret2
      exact ⟨H2.out, .inr ⟨T, H1.out, .inl ⟨D4.out, rfl⟩⟩⟩
  · have H1 := Lib.hid h1
    have H2 := Lib.hid h2.hb
    clear h1 h2
    go_wp2
    go_ret2
    exact ⟨H2.out, .inl ⟨H1.out, rfl⟩⟩
end Go.Proofs.YtebjofffijnihaaGreatDoor
namespace Go.Proofs.YtebjofffijnihaaGreatDoor
set_option maxRecDepth 100000
set_option linter.unusedVariables false

theorem look_mem {z : List Mc} {x v : Str} (h : look z x = some v) : (x, v) ∈ z := by
  unfold look at h
  cases e : z.find? fun m => m.1 == x with
  | none => rw [e] at h; cases h
  | some m =>
    rw [e] at h
    cases h
    have h1 := List.mem_of_find?_eq_some e
    have h2 := List.find?_some e
    have h3 : m.1 = x := by simpa using h2
    rw [← h3]; exact h1
theorem look_of {z : List Mc} (hd : (names z).Nodup) {m : Mc} (hm : m ∈ z) : look z m.1 = some m.2 := by
  unfold look
  cases e : z.find? fun m' => m'.1 == m.1 with
  | none => have := List.find?_eq_none.1 e m hm; simp at this
  | some m' =>
    have h1 := List.mem_of_find?_eq_some e
    have h2 := List.find?_some e
    have h3 : m'.1 = m.1 := by simpa using h2
    rw [nodup_eq hd h1 hm h3]; rfl
theorem ev_some {z : List Mc} {k : Nat} {x t : Str} (h : ev z k x = some t) : ∃ j y T, k = j + 1 ∧ (x, y) ∈ z ∧ look z x = some y ∧ tk none y = some T ∧ sub (ev z j) T = some t ∧ t.length ≤ 2000 := by
  cases k with
  | zero => cases h
  | succ j =>
    rw [ev] at h
    cases hl : look z x with
    | none => rw [hl] at h; cases h
    | some y =>
      rw [hl, Option.bind_some] at h
      obtain ⟨T, h1, h2, h3⟩ := val_some h
      exact ⟨j, y, T, rfl, look_mem hl, rfl, h1, h2, h3⟩
theorem usesR_of {s : Str} {T : List Tok} (h : tk none s = some T) : usesR s = dd T := by unfold usesR; rw [h]
theorem formR_of : ∀ (z : List Mc) (seen : List Str), (names z).Nodup → (∀ m ∈ z, good m.1 = true ∧ tk none m.2 ≠ none) → (∀ m ∈ z, m.1 ∉ seen) → formR seen z = 0
  | [], _, _, _, _ => rfl
  | m :: r, seen, hd, hg, hs => by
    have hd' : m.1 ∉ names r ∧ (names r).Nodup := List.nodup_cons.1 hd
    have h1 := hg m List.mem_cons_self
    have h2 := hs m List.mem_cons_self
    rw [formR, if_neg (by rw [h1.1]; decide), if_neg h1.2, if_neg (by simpa using h2)]
    refine formR_of r _ hd'.2 (fun x hx => hg x (List.mem_cons_of_mem _ hx)) (fun x hx e => ?_)
    rcases List.mem_append.1 e with e | e
    · exact hs x (List.mem_cons_of_mem _ hx) e
    · exact hd'.1 (by rw [← List.mem_singleton.1 e]; exact List.mem_map_of_mem hx)
theorem Fine.form {z : List Mc} (h : Fine z) : formR [] z = 0 := by
  obtain ⟨_, hd, hg, k, hk⟩ := h
  refine formR_of z [] hd (fun m hm => ⟨hg m hm, fun e => ?_⟩) (fun m _ => List.not_mem_nil)
  obtain ⟨t, ht⟩ := Option.isSome_iff_exists.1 (hk m hm)
  obtain ⟨j, y, T, _, _, h1, h2, _⟩ := ev_some ht
  rw [look_of hd hm] at h1
  cases h1
  rw [e] at h2; cases h2
theorem Fine.refs {z : List Mc} (h : Fine z) : Refs z := by
  obtain ⟨_, hd, hg, k, hk⟩ := h
  intro m hm x hx
  obtain ⟨t, ht⟩ := Option.isSome_iff_exists.1 (hk m hm)
  obtain ⟨j, y, T, _, _, h1, h2, h3, _⟩ := ev_some ht
  rw [look_of hd hm] at h1
  cases h1
  rw [usesR_of h2, mem_dd] at hx
  obtain ⟨u, hu⟩ := sub_some T t h3 x hx
  obtain ⟨_, y', _, _, h4, _⟩ := ev_some hu
  exact List.mem_map_of_mem h4
theorem Fine.free {z : List Mc} (h : Fine z) : ¬ Stuck z := by
  obtain ⟨_, hd, hg, k, hk⟩ := h
  rintro ⟨P, ⟨m0, hm0, hp0⟩, hP⟩
  have key : ∀ (k : Nat) (m : Mc), m ∈ z → m.1 ∉ P → ev z k m.1 = none := by
    intro k
    induction k with
    | zero => intro m _ _; rfl
    | succ k ih =>
      intro m hm hp
      cases e : ev z (k + 1) m.1 with
      | none => rfl
      | some t =>
        obtain ⟨j, y, T, hj, _, h1, h2, h3, _⟩ := ev_some e
        rw [look_of hd hm] at h1
        cases h1
        obtain ⟨x, hx, hxp⟩ := hP m hm hp
        rw [usesR_of h2, mem_dd] at hx
        obtain ⟨u, hu⟩ := sub_some T t h3 x hx
        obtain rfl : j = k := by omega
        obtain ⟨_, y', _, _, h4, _⟩ := ev_some hu
        rw [ih (x, y') h4 hxp] at hu
        cases hu
  have := hk m0 hm0
  rw [key k m0 hm0 hp0] at this
  cases this

/-- which error macros without expansions have -/
def XErr (z : List Mc) (E : Int) : Prop :=
  (40 < z.length ∧ E = 2) ∨ (z.length ≤ 40 ∧ ((formR [] z ≠ 0 ∧ E = formR [] z) ∨ (formR [] z = 0 ∧ (((∃ m ∈ z, ∃ x ∈ usesR m.2, x ∉ names z) ∧ E = 5) ∨ (Refs z ∧ ((Stuck z ∧ E = 8) ∨ ((∃ o, Ord o ∧ ∀ m, m ∈ o ↔ m ∈ z) ∧ E = 2 ∧ ¬ Fine z)))))))
theorem XErr.bad {z : List Mc} {E : Int} (h : XErr z E) : ¬ Fine z ∧ E ≠ 0 := by
  rcases h with ⟨h, rfl⟩ | ⟨_, (⟨h, rfl⟩ | ⟨_, (⟨⟨m, hm, x, hx, hn⟩, rfl⟩ | ⟨_, (⟨h, rfl⟩ | ⟨_, rfl, h⟩)⟩)⟩)⟩
  · exact ⟨fun F => by have := F.1; omega, by decide⟩
  · exact ⟨fun F => h F.form, h⟩
  · exact ⟨fun F => hn (F.refs m hm x hx), by decide⟩
  · exact ⟨fun F => F.free h, by decide⟩
  · exact ⟨h, by decide⟩

/-- f holds the expansions of l's names, as z has them -/
structure FE (z l : List Mc) (f : Str → Option Str) : Prop where
  some : ∀ x, (f x).isSome = (names l).contains x
  val : ∃ j, ∀ x t, f x = .some t → ev z j x = .some t ∧ t.length ≤ 2000
def updS (f : Str → Option Str) (x t : Str) : Str → Option Str := fun s => if s = x then some t else f s
theorem FE.subs {z l : List Mc} {f : Str → Option Str} (h : FE z l f) {y : Str} {T : List Tok} (hT : tk none y = .some T) (hy : ∀ x ∈ usesR y, x ∈ names l) : sub f T = .some (subD f T) := by
  refine sub_all T fun n hn => ?_
  rw [h.some n, List.contains_iff_mem]
  exact hy n (by rw [usesR_of hT, mem_dd]; exact hn)
theorem FE.step {z l : List Mc} {f : Str → Option Str} (h : FE z l f) (hd : (names z).Nodup) {x y : Str} {T : List Tok} (hm : (x, y) ∈ z) (hT : tk none y = .some T) (hy : ∀ n ∈ usesR y, n ∈ names l) (hl : (subD f T).length ≤ 2000) :
    FE z (l ++ [(x, y)]) (updS f x (subD f T)) := by
  have hs := h.subs hT hy
  obtain ⟨j, hj⟩ := h.val
  refine ⟨fun s => ?_, j + 1, fun s t e => ?_⟩
  · rw [names_snoc]
    unfold updS
    by_cases he : s = x
    · subst he; simp
    · rw [if_neg he, h.some s]; simp [he]
  · unfold updS at e
    by_cases he : s = x
    · subst he
      rw [if_pos rfl] at e
      cases e
      refine ⟨?_, hl⟩
      rw [ev, look_of hd hm, Option.bind_some]
      exact val_mk hT (sub_mono (fun n t e => (hj n t e).1) T _ hs) hl
    · rw [if_neg he] at e
      exact ⟨ev_step z j s t (hj s t e).1, (hj s t e).2⟩
theorem FE.large {z l : List Mc} {f : Str → Option Str} (h : FE z l f) (hd : (names z).Nodup) {x y : Str} {T : List Tok} (hm : (x, y) ∈ z) (hT : tk none y = .some T) (hy : ∀ n ∈ usesR y, n ∈ names l) (hl : 2000 < (subD f T).length) : ¬ Fine z := by
  rintro ⟨_, _, _, k, hk⟩
  have hs := h.subs hT hy
  obtain ⟨j, hj⟩ := h.val
  obtain ⟨t, ht⟩ := Option.isSome_iff_exists.1 (hk _ hm)
  obtain ⟨i, y', T', _, _, h1, h2, h3, h4⟩ := ev_some ht
  rw [look_of hd hm] at h1
  cases h1
  rw [hT] at h2
  cases h2
  have a := sub_mono (fun n t e => ev_mono z (Nat.le_max_left j i) (hj n t e).1) T _ hs
  have b := sub_mono (fun n t e => ev_mono z (Nat.le_max_right j i) e) T _ h3
  rw [a] at b
  cases b
  omega
theorem FE.start (z : List Mc) : FE z [] (fun _ => none) := ⟨fun _ => rfl, 0, fun x t e => by cases e⟩
theorem FE.fine {z o : List Mc} {f : Str → Option Str} (h : FE z o f) (hn : z.length ≤ 40) (h0 : formR [] z = 0) (ho : ∀ m, m ∈ o ↔ m ∈ z) : Fine z := by
  obtain ⟨a, b, _⟩ := formR_zero z [] h0
  obtain ⟨j, hj⟩ := h.val
  refine ⟨hn, a, fun m hm => (b m hm).1, j, fun m hm => ?_⟩
  have : (f m.1).isSome = true := by rw [h.some, List.contains_iff_mem]; exact List.mem_map_of_mem ((ho m).2 hm)
  obtain ⟨t, ht⟩ := Option.isSome_iff_exists.1 this
  rw [(hj _ _ ht).1]; rfl
theorem FE.mem {z o : List Mc} {f : Str → Option Str} (h : FE z o f) (ho : ∀ m, m ∈ o ↔ m ∈ z) (x : Str) : (f x).isSome = (names z).contains x := by
  rw [h.some, Bool.eq_iff_iff, List.contains_iff_mem, List.contains_iff_mem]
  constructor
  · intro e; obtain ⟨m, hm, e⟩ := List.mem_map.1 e; rw [← e]; exact List.mem_map_of_mem ((ho m).1 hm)
  · intro e; obtain ⟨m, hm, e⟩ := List.mem_map.1 e; rw [← e]; exact List.mem_map_of_mem ((ho m).2 hm)

/-- which error an expansion has -/
def EErr (z : List Mc) (s : Str) (E : Int) : Prop :=
  XErr z E ∨ (Fine z ∧ ((tk none s = none ∧ E = 3) ∨ ∃ T, tk none s = some T ∧ (((∃ x ∈ dd T, x ∉ names z) ∧ E = 5) ∨ ((∀ x ∈ dd T, x ∈ names z) ∧ (∀ t, ¬ Exp z s t) ∧ E = 2))))
theorem EErr.bad {z : List Mc} {s : Str} {E : Int} (h : EErr z s E) : (∀ t, ¬ Exp z s t) ∧ E ≠ 0 := by
  rcases h with h | ⟨F, (⟨h, rfl⟩ | ⟨T, hT, (⟨⟨x, hx, hn⟩, rfl⟩ | ⟨_, h, rfl⟩)⟩)⟩
  · exact ⟨fun t e => h.bad.1 e.1, h.bad.2⟩
  · refine ⟨fun t e => ?_, by decide⟩
    obtain ⟨_, k, e⟩ := e
    obtain ⟨T, e, _⟩ := val_some e
    rw [h] at e; cases e
  · refine ⟨fun t e => ?_, by decide⟩
    obtain ⟨_, k, e⟩ := e
    obtain ⟨T', e, e2, _⟩ := val_some e
    rw [hT] at e; cases e
    obtain ⟨u, hu⟩ := sub_some T t e2 x ((mem_dd x T).1 hx)
    obtain ⟨_, y, _, _, h4, _⟩ := ev_some hu
    exact hn (List.mem_map_of_mem h4)
  · exact ⟨h, by decide⟩
theorem FE.exp {z o : List Mc} {f : Str → Option Str} (h : FE z o f) (F : Fine z) (ho : ∀ m, m ∈ o ↔ m ∈ z) {s : Str} {T : List Tok} (hT : tk none s = .some T) (hy : ∀ n ∈ dd T, n ∈ names z) (hl : (subD f T).length ≤ 2000) : Exp z s (subD f T) := by
  have hs : sub f T = .some (subD f T) := sub_all T fun n hn => by
    rw [h.mem ho, List.contains_iff_mem]; exact hy n ((mem_dd n T).2 hn)
  obtain ⟨j, hj⟩ := h.val
  exact ⟨F, j, val_mk hT (sub_mono (fun n t e => (hj n t e).1) T _ hs) hl⟩
theorem FE.noexp {z o : List Mc} {f : Str → Option Str} (h : FE z o f) (ho : ∀ m, m ∈ o ↔ m ∈ z) {s : Str} {T : List Tok} (hT : tk none s = .some T) (hy : ∀ n ∈ dd T, n ∈ names z) (hl : 2000 < (subD f T).length) (t : Str) : ¬ Exp z s t := by
  rintro ⟨_, k, e⟩
  have hs : sub f T = .some (subD f T) := sub_all T fun n hn => by
    rw [h.mem ho, List.contains_iff_mem]; exact hy n ((mem_dd n T).2 hn)
  obtain ⟨j, hj⟩ := h.val
  obtain ⟨T', e1, e2, e3⟩ := val_some e
  rw [hT] at e1; cases e1
  have a := sub_mono (fun n t e => ev_mono z (Nat.le_max_left j k) (hj n t e).1) T _ hs
  have b := sub_mono (fun n t e => ev_mono z (Nat.le_max_right j k) e) T _ e2
  rw [a] at b
  cases b
  omega
end Go.Proofs.YtebjofffijnihaaGreatDoor
namespace Go.Proofs.YtebjofffijnihaaGreatDoor
set_option maxRecDepth 100000
set_option linter.unusedVariables false
open Go.ChangeShapes Go.WideShapes Go.ChangeAt Go.RowKit

theorem fT_upd (f : Str → Option Str) (x t s : Str) : upd (fT f) x (.string (bs t)) s = fT (updS f x t) s := by
  unfold upd fT updS
  by_cases h : s = x
  · simp [h]
  · simp [h]
/-- what expandAll hands back -/
def XPost (z : List Mc) (w : World) (e : Ending) (w' : World) : Prop :=
  Below w.heap.size w w' ∧ ((Fine z ∧ ∃ o f mb n, (∀ m, m ∈ o ↔ m ∈ z) ∧ FE z o f ∧ MI mb n (fT f) w' ∧ w.heap.size ≤ mb ∧ e = .returned (.tuple #[.map (some mb), .int .i64 0])) ∨ ∃ E, XErr z E ∧ e = .returned (.tuple #[.map none, .int .i64 E]))
theorem xp_err {z : List Mc} {w w' : World} {e : Ending} (h : OPost z w e w') : (∃ E, XErr z E ∧ e = .returned (.tuple #[.slice none 0 0, .int .i64 E])) ∨
    (z.length ≤ 40 ∧ formR [] z = 0 ∧ Refs z ∧ ∃ o v, McIn w' v o ∧ Ord o ∧ (∀ m, m ∈ o ↔ m ∈ z) ∧ e = .returned (.tuple #[v, .int .i64 0])) := by
  obtain ⟨_, h⟩ := h
  rcases h with ⟨h, rfl⟩ | ⟨hn, (⟨h, rfl⟩ | ⟨h0, (⟨h, rfl⟩ | ⟨hr, (⟨h, rfl⟩ | h)⟩)⟩)⟩
  · exact .inl ⟨_, .inl ⟨h, rfl⟩, rfl⟩
  · exact .inl ⟨_, .inr ⟨hn, .inl ⟨h, rfl⟩⟩, rfl⟩
  · exact .inl ⟨_, .inr ⟨hn, .inr ⟨h0, .inl ⟨h, rfl⟩⟩⟩, rfl⟩
  · exact .inl ⟨_, .inr ⟨hn, .inr ⟨h0, .inr ⟨hr, .inl ⟨h, rfl⟩⟩⟩⟩, rfl⟩
  · exact .inr ⟨hn, h0, hr, h⟩
set_option maxHeartbeats 4000000 in
set_option maxRecDepth 100000 in
theorem all_any (z : List Mc) (v : Value) (w : World) (h : McIn w v z) (hx : ∀ m ∈ z, m.1.length ≤ maxLen ∧ m.2.length ≤ 4294967296) :
    Calls Tryz.prog 88 #[v] w (XPost z w) := by
  have hmm := @run_makeMap Tryz.prog
  have FA := Lib.hid (first_any z v w h hx)
  have HX := Lib.hid hx
  clear h hx
  go_enter Tryz.func88, Tryz.ntmps88
  go_wp2_with fail
  refine FA.out.mono ?_
  intro e w1 hp
  have B1 := Lib.hid hp.1
  rcases xp_err hp with ⟨E, hE, rfl⟩ | ⟨hn, h0, hr, o, v', ho, hord, hiff, rfl⟩
  · have t1 : (E != 0) = true := by simpa using hE.bad.2
    have HE := Lib.hid hE
    clear hE hp FA
    go_wp2
    go_ret2
    exact ⟨B1.out, .inr ⟨E, HE.out, rfl⟩⟩
  · have HN := Lib.hid hn; have H0 := Lib.hid h0; have HR := Lib.hid hr; have HO := Lib.hid hord; have HI := Lib.hid hiff
    have GN : Hid (∀ m ∈ o, m ∈ z ∧ m.1.length ≤ maxLen ∧ m.2.length ≤ 4294967296 ∧ tk none m.2 ≠ none) := fun m hm => ⟨(hiff m).1 hm, (HX.out m ((hiff m).1 hm)).1, (HX.out m ((hiff m).1 hm)).2, ((formR_zero z [] h0).2.1 m ((hiff m).1 hm)).2⟩
    have ND := Lib.hid (formR_zero z [] h0).1
    have OL : Hid (o.length ≤ 8796093022208) := by obtain ⟨_, _, _, _, _, h4, _⟩ := ho; exact h4
    have M0 := Lib.hid (MI.made w1)
    have BA : Hid (∀ q, Below w1.heap.size w1 (w1.alloc q)) := fun q => (Below.refl _ _).alloc (Nat.le_refl _) q
    have BW : Hid (∀ W, Below w1.heap.size w1 W → Below w.heap.size w W) := fun W hW => B1.out.trans (hW.mono B1.out.size)
    clear hn h0 hr hord hiff hp FA
    rcases ho.open with ⟨rfl, a, cap, rfl⟩ | ⟨hpos, b, off, cap, rfl, hcap, hlt, hc⟩
    · clear ho
      go_wp2_with fail
      go_rounds 1
      go_ret2
      exact ⟨BW.out _ (BA.out _), .inl ⟨(FE.start z).fine HN.out H0.out HI.out, [], _, _, _, HI.out, FE.start z, M0.out.congr (fun _ => rfl), B1.out.size, rfl⟩⟩
    · have HC : Hid (∀ W, Below w1.heap.size w1 W → ∀ k, k < o.length → W.cell? ⟨b, off + k * 2, none⟩ = some (.string (bs (nm o k))) ∧ W.cell? ⟨b, off + k * 2 + 1, none⟩ = some (.string (bs (vl o k)))) := fun W hW k hk => ⟨cell_later hW (hc k _ (at_some hk)).1, cell_later hW (hc k _ (at_some hk)).2⟩
      have HT : Hid (∀ k, k < o.length → o.take (k + 1) = o.take k ++ [(nm o k, vl o k)]) := fun k hk => take_at hk
      have GM : Hid (∀ k, k < o.length → (nm o k, vl o k) ∈ z ∧ (nm o k).length ≤ maxLen ∧ (vl o k).length ≤ 4294967296 ∧ tk none (vl o k) ≠ none) := fun k hk => GN.out _ (mem_at hk)
      have HU : Hid (∀ k, k < o.length → ∀ n ∈ usesR (vl o k), n ∈ names (o.take k)) := fun k hk => HO.out k _ (at_some hk)
      clear ho hc hlt
      generalize nm o = f at *
      generalize vl o = g at *
      go_wp2_with fail
      go_loopw [22] (fun i wr => ∃ (k : Nat) (F : Str → Option Str), k ≤ o.length ∧ i = .int .i64 (k : Int) ∧ FE z (o.take k) F ∧ MI w1.heap.size k (fT F) wr ∧ Below w1.heap.size w1 wr) (fun i _ => o.length - (intOf i).toNat)
      case atStart => exact ⟨0, _, Nat.zero_le _, rfl, FE.start z, M0.out.congr (fun _ => rfl), BA.out _⟩
      case round =>
        obtain ⟨k, F, hk, rfl, q1, q2, q3⟩ := hrel
        have Q1 := Lib.hid q1; have Q2 := Lib.hid q2; have Q3 := Lib.hid q3; clear q1 q2 q3
        by_cases hk2 : k < o.length
        · obtain ⟨c1, c2⟩ := HC.out wr Q3.out k hk2
          have T1 := Lib.hid (HT.out k hk2)
          obtain ⟨g1, g2, g3, g4⟩ := GM.out k hk2
          have U1 := Lib.hid (HU.out k hk2)
          generalize f k = x at *
          generalize g k = y at *
          have G1 := Lib.hid g1; have G2 := Lib.hid g2; have G4 := Lib.hid g4
          have ST := Lib.hid (stay_new wr (.string (bs x)) (.string (bs y)))
          have BR : Hid (Below w1.heap.size w1 (wr.alloc (.cells #[.string (bs x), .string (bs y)] 109))) := Q3.out.alloc Q3.out.size _
          have MR : Hid (MI w1.heap.size k (fT F) (wr.alloc (.cells #[.string (bs x), .string (bs y)] 109))) := Q2.out.alloc _
          have RE := Lib.hid (rep_any y w1.heap.size k F _ g3 MR.out (fun s t e => by obtain ⟨j, hj⟩ := Q1.out.val; have := (hj s t e).2; omega))
          clear g1 g2 g3 g4
          go_wp2_with fail
          refine RE.out.mono ?_
          rintro e w3 ⟨hb, (⟨h1, rfl⟩ | ⟨T, hT, (⟨hl, rfl⟩ | ⟨hl, rfl⟩)⟩)⟩
          · exact absurd h1 G4.out
          · have B3 : Hid (Below w1.heap.size w1 w3) := BR.out.trans (hb.mono BR.out.size)
            have NF := Lib.hid (Q1.out.large ND.out G1.out hT U1.out hl)
            clear hb hT hl
            go_wp2
            go_ret2
            exact ⟨BW.out _ B3.out, .inr ⟨2, .inr ⟨HN.out, .inr ⟨H0.out, .inr ⟨HR.out, .inr ⟨⟨o, HO.out, HI.out⟩, rfl, NF.out⟩⟩⟩⟩, rfl⟩⟩
          · have B3 : Hid (Below w1.heap.size w1 w3) := BR.out.trans (hb.mono BR.out.size)
            have S3 := Lib.hid (ST.out.later hb)
            have M3 := Lib.hid (MR.out.later hb)
            have F3 := Lib.hid (Q1.out.step ND.out G1.out hT U1.out hl)
            obtain ⟨d1, d2⟩ := S3.out.cells
            generalize subD F T = t at *
            obtain ⟨w4, r4, n4, g4, z4⟩ := M3.out.store (t := 142) (e := 9) (x := x) Tryz.underlying142 (by have := OL.out; unfold maxLen; omega) G2.out (.string (bs t))
            have N4 := Lib.hid n4
            have B4 : Hid (Below w1.heap.size w1 w4) := B3.out.grown g4 B3.out.size (fun j hj => by injection hj with hj; omega)
            clear hb hT hl n4 g4 z4
            have ol := OL.out
            go_wp2
            go_roundw
            case rel => exact ⟨k + 1, updS F x t, by omega, by go_num, by rw [T1.out]; exact F3.out, N4.out.congr (fT_upd F x t), B4.out⟩
            case measure => simp [intOf]; omega
        · obtain rfl : k = o.length := by omega
          have FO : Hid (FE z o F) := by have := Q1.out; rw [List.take_length] at this; exact this
          go_wp2
          go_ret2
          exact ⟨BW.out _ Q3.out, .inl ⟨FO.out.fine HN.out H0.out HI.out, o, F, _, _, HI.out, FO.out, Q2.out, B1.out.size, rfl⟩⟩
/-- what Expand hands back -/
def EPost (z : List Mc) (s : Str) (w : World) (e : Ending) (w' : World) : Prop :=
  Below w.heap.size w w' ∧ ((∃ t, Exp z s t ∧ e = .returned (.tuple #[.string (bs t), .int .i64 0])) ∨ ∃ E, EErr z s E ∧ e = .returned (.tuple #[.string (bs []), .int .i64 E]))
theorem isNone_T (f : Str → Option Str) (x : Str) : (fT f x).isSome = (f x).isSome := by unfold fT; cases f x <;> rfl
set_option maxHeartbeats 4000000 in
set_option maxRecDepth 100000 in
theorem exp_any (z : List Mc) (s : Str) (v : Value) (w : World) (h : McIn w v z) (hx : ∀ m ∈ z, m.1.length ≤ maxLen ∧ m.2.length ≤ 4294967296) (hs : s.length ≤ 4294967296) :
    Calls Tryz.prog 91 #[v, .string (bs s)] w (EPost z s w) := by
  have AL := Lib.hid (all_any z v w h hx)
  have HS := Lib.hid hs
  clear h hx hs
  go_enter Tryz.func91, Tryz.ntmps91
  go_wp2_with fail
  refine AL.out.mono ?_
  rintro e w1 ⟨hb, (⟨hF, o, f, mb, n, ho, hE, hM, hmb, rfl⟩ | ⟨E, hE, rfl⟩)⟩
  · have B1 := Lib.hid hb; have FF := Lib.hid hF; have HO := Lib.hid ho; have HE := Lib.hid hE; have HM := Lib.hid hM
    clear hb hF ho hE hM AL hmb
    go_wp2_with fail
    refine (uses_any s _ HS.out).mono ?_
    rintro e w2 ⟨hb, (⟨T, u, hT, rfl, hin, hg⟩ | ⟨hT, rfl⟩)⟩
    · have B2 : Hid (Below w.heap.size w w2) := B1.out.trans (hb.mono B1.out.size)
      have M2 := Lib.hid (HM.out.later hb)
      have HA := Lib.hid (has_s (dd T) u mb n (fT f) w2 M2.out hin (fun x hx => by have := (good_len (hg x hx)).2; unfold maxLen; omega))
      have TT := Lib.hid hT
      clear hb hT hin hg
      go_wp2_with fail
      refine HA.out.mono ?_
      rintro e w3 ⟨rfl, hb⟩
      have B3 : Hid (Below w.heap.size w w3) := B2.out.trans (hb.mono B2.out.size)
      have M3 := Lib.hid (M2.out.later hb)
      clear hb HA
      cases ha : (dd T).all fun x => (fT f x).isSome
      · have NO : Hid (∃ x ∈ dd T, x ∉ names z) := by
          have : ¬ ((dd T).all fun x => (fT f x).isSome) = true := by rw [ha]; decide
          rw [List.all_eq_true] at this
          simp only [Classical.not_forall] at this
          obtain ⟨x, hx, h2⟩ := this
          rw [isNone_T, HE.out.mem HO.out] at h2
          exact ⟨x, hx, by simpa using h2⟩
        clear ha
        go_wp2
        go_ret2
        exact ⟨B3.out, .inr ⟨5, .inr ⟨FF.out, .inr ⟨T, TT.out, .inl ⟨NO.out, rfl⟩⟩⟩, rfl⟩⟩
      · have YES : Hid (∀ x ∈ dd T, x ∈ names z) := by
          intro x hx
          have := List.all_eq_true.1 ha x hx
          rw [isNone_T, HE.out.mem HO.out] at this
          simpa using this
        clear ha
        go_wp2_with fail
        refine (rep_any s mb n f _ HS.out M3.out (fun s t e => by obtain ⟨j, hj⟩ := HE.out.val; have := (hj s t e).2; omega)).mono ?_
        rintro e w4 ⟨hb, (⟨h1, rfl⟩ | ⟨T', hT', (⟨hl, rfl⟩ | ⟨hl, rfl⟩)⟩)⟩
        · rw [TT.out] at h1; cases h1
        · rw [TT.out] at hT'; cases hT'
          have B4 : Hid (Below w.heap.size w w4) := B3.out.trans (hb.mono B3.out.size)
          have NE := Lib.hid (HE.out.noexp HO.out TT.out YES.out hl)
          clear hb hl
          go_wp2
          go_ret2
          exact ⟨B4.out, .inr ⟨2, .inr ⟨FF.out, .inr ⟨T, TT.out, .inr ⟨YES.out, NE.out, rfl⟩⟩⟩, rfl⟩⟩
        · rw [TT.out] at hT'; cases hT'
          have B4 : Hid (Below w.heap.size w w4) := B3.out.trans (hb.mono B3.out.size)
          have EX := Lib.hid (HE.out.exp FF.out HO.out TT.out YES.out hl)
          clear hb hl
          go_wp2
          go_ret2
          exact ⟨B4.out, .inl ⟨_, EX.out, rfl⟩⟩
    · have B2 : Hid (Below w.heap.size w w2) := B1.out.trans (hb.mono B1.out.size)
      have TT := Lib.hid hT
      clear hb hT
      go_wp2
      go_ret2
      exact ⟨B2.out, .inr ⟨3, .inr ⟨FF.out, .inl ⟨TT.out, rfl⟩⟩, rfl⟩⟩
  · have B1 := Lib.hid hb; have HE := Lib.hid hE
    have t1 : (E != 0) = true := by simpa using hE.bad.2
    clear hb hE AL
    go_wp2
    go_ret2
    exact ⟨B1.out, .inr ⟨E, .inl HE.out, rfl⟩⟩
end Go.Proofs.YtebjofffijnihaaGreatDoor
namespace Go.Proofs.YtebjofffijnihaaGreatDoor
set_option maxRecDepth 100000
set_option linter.unusedVariables false
open Go.ChangeShapes Go.WideShapes Go.ChangeAt Go.RowKit

theorem ab_exp : Exp [([97], [98])] [36, 40, 97, 41] [98] := by
  refine ⟨⟨by decide, by decide, by decide, 1, by decide⟩, 1, by decide⟩
theorem ab_cells (w : World) : McIn (w.alloc (.cells #[.string (bs [97]), .string (bs [98])] 109)) (.slice (some ⟨w.heap.size, 0, none⟩) 1 1) [([97], [98])] := by
  refine ⟨some ⟨w.heap.size, 0, none⟩, 1, rfl, Nat.le_refl _, by decide, by decide, .inr ⟨w.heap.size, 0, rfl, by simp, fun k x hk => ?_⟩⟩
  have hs := stay_new w (.string (bs [97])) (.string (bs [98]))
  match k, hk with
  | 0, hk =>
    simp at hk
    subst hk
    exact hs.cells
/-- the two answers of Expand, in one -/
def Ans (z : List Mc) (s a : Str) (E : Int) : Prop := (E = 0 ∧ Exp z s a) ∨ (E ≠ 0 ∧ a = [] ∧ EErr z s E ∧ ∀ t, ¬ Exp z s t)
theorem ans_of {z : List Mc} {s : Str} {w w' : World} {e : Ending} (h : EPost z s w e w') : Below w.heap.size w w' ∧ ∃ a E, e = .returned (.tuple #[.string (bs a), .int .i64 E]) ∧ Ans z s a E := by
  obtain ⟨hb, h⟩ := h
  refine ⟨hb, ?_⟩
  rcases h with ⟨a, h2, rfl⟩ | ⟨E, h2, rfl⟩
  · exact ⟨a, 0, rfl, .inl ⟨rfl, h2⟩⟩
  · exact ⟨[], E, rfl, .inr ⟨h2.bad.2, rfl, h2, h2.bad.1⟩⟩
end Go.Proofs.YtebjofffijnihaaGreatDoor
namespace Go.Proofs.YtebjofffijnihaaGreatDoor
set_option maxRecDepth 100000
open Go.ChangeShapes Go.WideShapes Go.ChangeAt Go.RowKit Go.Shelf

def wb_ren : Ren := ⟨fun | 167 => 85 | 166 => 84 | 240 => 111 | 276 => 133 | n => n, fun | 0 => 0 | 3 => 3 | 4 => 4 | 5 => 5 | 9 => 9 | 20 => 20 | 37 => 132 | 70 => 131 | 72 => 134 | 75 => 136 | 80 => 140 | 164 => 184 | 76 => 137 | n => n, fun | n => n⟩
theorem wbL : Go.Proofs.Lays.n167 Tryz.prog wb_ren := {
  mixed := by kernel_rfl
  f167 := Tryz.func85.trans (congrArg some (by kernel_rfl))
  f240 := Tryz.func111.trans (congrArg some (by kernel_rfl))
  f276 := Tryz.func133.trans (congrArg some (by kernel_rfl))
  t0 := Tryz.underlying0
  a0 := Tryz.isAgg0
  z0 := Tryz.sizeOf0
  v0 := Tryz.zeroValue0
  t4 := Tryz.underlying4
  a4 := Tryz.isAgg4
  z4 := Tryz.sizeOf4
  v4 := Tryz.zeroValue4
  t5 := Tryz.underlying5
  a5 := Tryz.isAgg5
  z5 := Tryz.sizeOf5
  v5 := Tryz.zeroValue5
  t9 := Tryz.underlying9
  a9 := Tryz.isAgg9
  z9 := Tryz.sizeOf9
  v9 := Tryz.zeroValue9
  t20 := Tryz.underlying20
  a20 := Tryz.isAgg20
  z20 := Tryz.sizeOf20
  v20 := Tryz.zeroValue20
  t37 := Tryz.underlying132
  a37 := Tryz.isAgg132
  z37 := Tryz.sizeOf132
  v37 := Tryz.zeroValue132
  t70 := Tryz.underlying131
  a70 := Tryz.isAgg131
  z70 := Tryz.sizeOf131
  v70 := Tryz.zeroValue131
  t72 := Tryz.underlying134
  a72 := Tryz.isAgg134
  z72 := Tryz.sizeOf134
  v72 := Tryz.zeroValue134
  t75 := Tryz.underlying136
  a75 := Tryz.isAgg136
  z75 := Tryz.sizeOf136
  v75 := Tryz.zeroValue136
  t164 := Tryz.underlying184
  a164 := Tryz.isAgg184
  z164 := Tryz.sizeOf184
  v164 := Tryz.zeroValue184 }
theorem wbX : Builder.Extra Tryz.prog wb_ren := {
  sizeBuilder := by kernel_rfl
  liesBuilder := by kernel_rfl
  t5 := Tryz.underlying5
  a5 := Tryz.isAgg5
  z5 := Tryz.sizeOf5
  v5 := Tryz.zeroValue5
  infoByte := by kernel_rfl
  cellsByte := by kernel_rfl
  sizeByte := by kernel_rfl
  neB5 := by decide }
theorem wByte (B b : Nat) (l : Str) (c : UInt8) (C : Int) (hC : C = c.toNat) (w : World) (h : Bd B b l w) (hlen : l.length + 1 ≤ 140737488355328) (hBw : B ≤ w.heap.size) :
    Calls Tryz.prog 85 #[.pointer (some ⟨b, 0, none⟩), .int .u8 C] w fun e w' => e = .returned .nilIface ∧ Bd B b (l ++ [c]) w' ∧ Below B w w' := by
  subst hC
  refine (Any.Builder_WriteByte_k wbL wbX B b (Lib.byteCells l) c.toNat w h (by rw [Lib.byteCells_length]; exact hlen) hBw).mono ?_
  rintro e w' ⟨rfl, h1, h2, _⟩
  refine ⟨rfl, .inr ?_, h2⟩
  rw [Lib.byteCells_append]
  exact h1
theorem ascii2 : ∀ (j : Nat) (b : UInt8), ([32, 9] : List UInt8)[j]? = some b → b.toNat < 128 := ascii_of_all (by decide)
theorem trim_any (x : Str) (w : World) (hx : x.length ≤ 9223372036854775807) : Calls Tryz.prog 115 #[.string (bs x), .string (ByteArray.mk #[32, 9])] w fun e w' => e = .returned (.string (bs (triml (trimr x)))) ∧ Below w.heap.size w w' := by
  refine (Any.strings_Trim_laid Tryz.lays160 (by kernel_rfl) (bs x) ⟨#[32, 9]⟩ w (by rw [bs_size]; exact hx) (by decide) ascii2).mono ?_
  rintro e w' ⟨rfl, h⟩
  exact ⟨ret_s (trim_lib x), h⟩
end Go.Proofs.YtebjofffijnihaaGreatDoor
namespace Go.Proofs.YtebjofffijnihaaGreatDoor
set_option maxRecDepth 100000
open Go.ChangeShapes Go.WideShapes Go.ChangeAt Go.RowKit

end Go.Proofs.YtebjofffijnihaaGreatDoor
namespace Go.Proofs.YtebjofffijnihaaGreatDoor
set_option maxRecDepth 100000
open Go.ChangeShapes Go.WideShapes Go.ChangeAt Go.RowKit

/-- a comment begins at k -/
def Com (p : Bool) (s : Str) (k : Nat) : Prop := s.getD k 0 = 35 ∧ (if k = 0 then p = false else s.getD (k - 1) 0 ≠ 92)
theorem com_succ (c : UInt8) (r : Str) (p : Bool) (k : Nat) : Com p (c :: r) (k + 1) ↔ Com (c == 92) r k := by
  unfold Com
  cases k with
  | zero => simp
  | succ k => simp
theorem cut1_take : ∀ (s : Str) (p : Bool) (k : Nat), k < s.length → (∀ j, j < k → ¬ Com p s j) → Com p s k → cut1 p s = s.take k
  | [], _, _, h, _, _ => by simp at h
  | c :: r, p, 0, _, _, hc => by
    unfold Com at hc
    simp at hc
    simp [cut1, hc]
  | c :: r, p, k + 1, hk, h, hc => by
    have h0 := h 0 (by omega)
    have e : ¬ (c = 35 ∧ p = false) := fun q => h0 (by unfold Com; simp [q])
    rw [cut1, if_neg e, List.take_succ_cons, cut1_take r (c == 92) k (by simpa using hk) (fun j hj q => h (j + 1) (by omega) ((com_succ c r p j).2 q)) ((com_succ c r p k).1 hc)]
theorem cut1_all : ∀ (s : Str) (p : Bool), (∀ j, j < s.length → ¬ Com p s j) → cut1 p s = s
  | [], _, _ => by simp [cut1]
  | c :: r, p, h => by
    have h0 := h 0 (by simp)
    have e : ¬ (c = 35 ∧ p = false) := fun q => h0 (by unfold Com; simp [q])
    rw [cut1, if_neg e, cut1_all r (c == 92) (fun j hj q => h (j + 1) (by simpa using hj) ((com_succ c r p j).2 q))]
theorem com_nat (S : ByteArray) (k : Nat) : Com false S.data.toList k ↔ byteAt S k = 35 ∧ (k = 0 ∨ byteAt S (k - 1) ≠ 92) := by
  unfold Com byteAt
  have e : ∀ c d : UInt8, c = d ↔ c.toNat = d.toNat := fun c d => ⟨fun h => by rw [h], UInt8.toNat_inj.1⟩
  by_cases h : k = 0
  · subst h; simp [e]
  · simp [h, e]

end Go.Proofs.YtebjofffijnihaaGreatDoor
namespace Go.Proofs.YtebjofffijnihaaGreatDoor
set_option maxRecDepth 100000
open Go.ChangeShapes Go.WideShapes Go.ChangeAt Go.RowKit

/-- what is left to be joined behind k lines -/
def restOf (L : List Str) (k : Nat) : Str × Nat := if k = 0 then joinH L else joinT (L.drop k)
def cutS (x : Str) : Str := if ends92 x then x.dropLast else x
theorem cutS_le (x : Str) : (cutS x).length ≤ x.length := by unfold cutS; split <;> simp
theorem rest_first {L : List Str} (h : 0 < L.length) : restOf L 0 = if ends92 (L.getD 0 []) then (cutS (L.getD 0 []) ++ (restOf L 1).1, 1 + (restOf L 1).2) else (cutS (L.getD 0 []), 1) := by
  cases L with
  | nil => simp at h
  | cons x r =>
    simp only [restOf, if_true, joinH, List.getD_cons_zero, cutS, Nat.one_ne_zero, if_false, List.drop_succ_cons, List.drop_zero]
    split <;> simp [Nat.add_comm]
theorem rest_next {L : List Str} {k : Nat} (h : k < L.length) (h0 : k ≠ 0) : restOf L k = if ends92 (triml (L.getD k [])) then ([32] ++ cutS (triml (L.getD k [])) ++ (restOf L (k + 1)).1, 1 + (restOf L (k + 1)).2) else ([32] ++ cutS (triml (L.getD k [])), 1) := by
  have e : L.getD k [] = L[k] := by rw [List.getD, List.getElem?_eq_getElem h]; rfl
  unfold restOf
  rw [if_neg h0, if_neg (Nat.succ_ne_zero k), List.drop_eq_getElem_cons h, joinT, e]
  unfold cutS
  split <;> simp [Nat.add_comm]
theorem rest_end (L : List Str) (h : 0 < L.length) : restOf L L.length = ([], 0) := by
  unfold restOf
  rw [if_neg (by omega), List.drop_length]; rfl
theorem bulk_mem {L : List Str} {x : Str} (h : x ∈ L) : x.length ≤ bulk L := by
  induction L with
  | nil => simp at h
  | cons y r ih =>
    have e : bulk (y :: r) = y.length + 1 + bulk r := by simp [bulk]
    rcases List.mem_cons.1 h with rfl | h
    · omega
    · have := ih h; omega

end Go.Proofs.YtebjofffijnihaaGreatDoor
