/-
  Package macro's usesByName. Condition: at most 40 macros, their strings of at most 2^32 bytes.
  Orders of macros in plain words: each behind those that it refers to. No condition.
  Package macro's usedFirst. Condition: the macros' strings have at most 2^32 bytes.
-/
import Derived.Test.YtebjofffijnihaaGreatDoorGc4LIn
namespace Go.Proofs.YtebjofffijnihaaGreatDoor
set_option maxRecDepth 100000
set_option linter.unusedVariables false
open Go.ChangeShapes Go.WideShapes Go.ChangeAt Go.RowKit

def nm (z : List Mc) (k : Nat) : Str := (z.getD k ([], [])).1
def vl (z : List Mc) (k : Nat) : Str := (z.getD k ([], [])).2
theorem at_some {z : List Mc} {k : Nat} (h : k < z.length) : z[k]? = some (nm z k, vl z k) := by
  unfold nm vl; rw [List.getD, List.getElem?_eq_getElem h]; rfl
theorem mem_at {z : List Mc} {k : Nat} (h : k < z.length) : (nm z k, vl z k) ∈ z := List.mem_of_getElem? (at_some h)
theorem drop_at {z : List Mc} {k : Nat} (h : k < z.length) : z.drop k = (nm z k, vl z k) :: z.drop (k + 1) := by
  rw [List.drop_eq_getElem_cons h]
  have := at_some h
  rw [List.getElem?_eq_getElem h] at this
  rw [Option.some.inj this]
theorem take_at {z : List Mc} {k : Nat} (h : k < z.length) : z.take (k + 1) = z.take k ++ [(nm z k, vl z k)] := by
  rw [List.take_add_one, at_some h]; rfl

/-- the first fault of names and values -/
def formR : List Str → List Mc → Int
  | _, [] => 0
  | seen, m :: r => if good m.1 = false then 3 else if tk none m.2 = none then 3 else if seen.contains m.1 then 6 else formR (seen ++ [m.1]) r

/-- the macro in block k stays -/
def Stay (k : Nat) (x : Value) (y : Value) (w : World) : Prop := w.heap[k]? = some (.cells #[x, y] 109 (0, 0))
theorem Stay.cells {k : Nat} {x y : Value} {w : World} (h : Stay k x y w) : w.cell? ⟨k, 0, none⟩ = some x ∧ w.cell? ⟨k, 1, none⟩ = some y := by
  unfold Stay at h
  unfold World.cell?
  simp [h]
theorem Stay.later {k : Nat} {x y : Value} {w w' : World} (h : Stay k x y w) (hb : Below w.heap.size w w') : Stay k x y w' := by
  unfold Stay at h ⊢
  exact (hb.block _ (lt_of_block h)).trans h
theorem stay_new (w : World) (x y : Value) : Stay w.heap.size x y (w.alloc (.cells #[x, y] 109)) := by unfold Stay; exact heap_alloc_new _ _

/-- strings stay where a map is written -/
theorem SIn.mapped {w w' : World} {v : Value} {z : List Str} {b n : Nat} {f : Str → Option Value} (h : SIn w v z) (hm : MI b n f w) (g : w.grownBy w' (some b)) : SIn w' v z := by
  obtain ⟨a, cap, h1, h2, h3, h4, h5⟩ := h
  refine ⟨a, cap, h1, h2, h3, h4, ?_⟩
  by_cases h0 : z = []
  · exact .inl h0
  · rcases h5 with h5 | ⟨c, off, e1, e2, e3⟩
    · exact .inl h5
    · have hp := List.length_pos_iff.2 h0
      have hne : c ≠ b := by
        rintro rfl
        obtain ⟨D, ⟨es, clock, hb, _⟩, _⟩ := hm
        have := e3 0 hp
        simp [World.cell?, hb] at this
      refine .inr ⟨c, off, e1, Nat.lt_of_lt_of_le e2 g.size, fun k hk => ?_⟩
      exact g.cell (e3 k hk) (by simpa using hne)

/-- block b is a map that holds the names that each macro of l refers to -/
def UM (l : List Mc) (b n : Nat) (w : World) : Prop :=
  ∃ f, MI b n f w ∧ (∀ x, (f x).isSome = (l.map (·.1)).contains x) ∧ ∀ m ∈ l, ∃ v, f m.1 = some v ∧ SIn w v (usesR m.2) ∧ ∀ x ∈ usesR m.2, good x = true
theorem UM.later {l : List Mc} {b n : Nat} {w w' : World} (h : UM l b n w) (hb : Below w.heap.size w w') : UM l b n w' := by
  obtain ⟨f, h1, h2, h3⟩ := h
  refine ⟨f, h1.later hb, h2, fun m hm => ?_⟩
  obtain ⟨v, e1, e2, e3⟩ := h3 m hm
  exact ⟨v, e1, e2.later hb, e3⟩
/-- what usesByName hands back -/
def BPost (z : List Mc) (w : World) (e : Ending) (w' : World) : Prop :=
  Below w.heap.size w w' ∧ ((formR [] z = 0 ∧ e = .returned (.tuple #[.map (some w.heap.size), .int .i64 0]) ∧ UM z w.heap.size z.length w') ∨ (formR [] z ≠ 0 ∧ e = .returned (.tuple #[.map none, .int .i64 (formR [] z)])))
set_option maxHeartbeats 4000000 in
set_option maxRecDepth 100000 in
theorem by_any (z : List Mc) (v : Value) (w : World) (h : McIn w v z) (hn : z.length ≤ 40) (hx : ∀ m ∈ z, m.1.length ≤ maxLen ∧ m.2.length ≤ 4294967296) :
    Calls Tryz.prog 135 #[v] w (BPost z w) := by
  have hmm := @run_makeMap Tryz.prog
  have M0 := Lib.hid (MI.made w)
  rcases h.open with ⟨rfl, a, cap, rfl⟩ | ⟨hp, b, off, cap, rfl, hcap, hlt, hc⟩
  · clear h hx hn
    go_enter Tryz.func135, Tryz.ntmps135
    go_wp2_with fail
    go_rounds 1
    go_ret2
    exact ⟨(Below.refl _ _).alloc (Nat.le_refl _) _, .inl ⟨rfl, rfl, _, M0.out, fun _ => rfl, fun m hm => absurd hm List.not_mem_nil⟩⟩
  · have HC : Hid (∀ W, Below w.heap.size w W → ∀ k, k < z.length → W.cell? ⟨b, off + k * 2, none⟩ = some (.string (bs (nm z k))) ∧ W.cell? ⟨b, off + k * 2 + 1, none⟩ = some (.string (bs (vl z k)))) := fun W hW k hk => ⟨cell_later hW (hc k _ (at_some hk)).1, cell_later hW (hc k _ (at_some hk)).2⟩
    have HX : Hid (∀ k, k < z.length → (nm z k).length ≤ maxLen ∧ (vl z k).length ≤ 4294967296) := fun k hk => hx _ (mem_at hk)
    have HT : Hid (∀ k, k < z.length → z.take (k + 1) = z.take k ++ [(nm z k, vl z k)]) := fun k hk => take_at hk
    have HD : Hid (∀ k, k < z.length → z.drop k = (nm z k, vl z k) :: z.drop (k + 1)) := fun k hk => drop_at hk
    clear h hc hx hlt
    generalize nm z = f at *
    generalize vl z = g at *
    go_enter Tryz.func135, Tryz.ntmps135
    go_wp2_with fail
    go_loopw [15] (fun i wr => ∃ k : Nat, k ≤ z.length ∧ i = .int .i64 (k : Int) ∧ formR [] z = formR ((z.take k).map (·.1)) (z.drop k) ∧ UM (z.take k) w.heap.size k wr ∧ Below w.heap.size w wr) (fun i _ => z.length - (intOf i).toNat)
    case atStart => exact ⟨0, Nat.zero_le _, rfl, rfl, ⟨_, M0.out, fun _ => rfl, fun m hm => absurd hm (by simp)⟩, (Below.refl _ _).alloc (Nat.le_refl _) _⟩
    case round =>
      obtain ⟨k, hk, rfl, q1, q2, q3⟩ := hrel
      have Q1 := Lib.hid q1; have Q2 := Lib.hid q2; have Q3 := Lib.hid q3; clear q1 q2 q3
      by_cases hk2 : k < z.length
      · obtain ⟨c1, c2⟩ := HC.out wr Q3.out k hk2
        have T1 := Lib.hid (HT.out k hk2)
        have D1 := Lib.hid (HD.out k hk2)
        obtain ⟨x1, x2⟩ := HX.out k hk2
        have X1 := Lib.hid x1; have X2 := Lib.hid x2; clear x1 x2
        have ST := Lib.hid (stay_new wr (.string (bs (f k))) (.string (bs (g k))))
        have BA : Hid (∀ o, Below wr.heap.size wr (wr.alloc o)) := fun o => (Below.refl _ _).alloc (Nat.le_refl _) o
        have NS : Hid ((bs (f k)).size ≤ 9223372036854775807) := by have := X1.out; unfold maxLen at this; show _ ≤ _; rw [bs_size]; omega
        generalize f k = x at *
        generalize g k = y at *
        go_wp2_with fail
        refine (check_any (bs x) _ NS.out).mono ?_
        rintro e w1 ⟨rfl, rfl⟩
        rw [bs_list]
        cases hg : good x
        · have F3 : Hid (formR [] z = 3) := by show _ = _; rw [Q1.out, D1.out, formR, if_pos hg]
          clear hg
          go_wp2
          go_ret2
          exact ⟨Q3.out.trans ((BA.out _).mono Q3.out.size), .inr ⟨by rw [F3.out]; decide, by rw [F3.out]; rfl⟩⟩
        · have HG := Lib.hid hg; clear hg
          go_wp2_with fail
          refine (uses_any y _ X2.out).mono ?_
          rintro e w2 ⟨hb, (⟨T, u, ht, rfl, hin, hgd⟩ | ⟨ht, rfl⟩)⟩
          · have B2 : Hid (Below wr.heap.size wr w2) := (BA.out _).trans (hb.mono (BA.out _).size)
            have S2 := Lib.hid (ST.out.later hb)
            have U2 := Lib.hid (Q2.out.later B2.out)
            have IN2 := Lib.hid hin
            have GD := Lib.hid hgd
            have YT : Hid (usesR y = dd T) := by show _ = _; unfold usesR; rw [ht]
            have HT2 := Lib.hid ht
            clear hb hin hgd ht ST BA
            obtain ⟨d1, d2⟩ := S2.out.cells
            obtain ⟨fm, m1, m2, m3⟩ := U2.out
            have l1 := m1.look_ok (t := 70) (e := 23) (z := .slice none 0 0) (x := x) Tryz.underlying70 (Tryz.zeroValue23 w2) X1.out
            have M2 := Lib.hid m2
            have M3 := Lib.hid m3
            have E1 := Lib.hid (m2 x)
            rw [m2 x] at l1
            obtain ⟨y1, hy1⟩ : ∃ y1, y1 = (fm x).getD (.slice none 0 0) := ⟨_, rfl⟩
            rw [← hy1] at l1
            clear hy1
            cases hc : ((z.take k).map (·.1)).contains x
            · rw [hc] at l1
              obtain ⟨w3, r3, n3, g3, z3⟩ := m1.store (t := 70) (e := 23) (x := x) Tryz.underlying70 (by unfold maxLen; omega) X1.out u
              have M1 := Lib.hid m1
              have N3 := Lib.hid n3
              have G3 := Lib.hid g3
              have Z3 := Lib.hid z3
              have HC0 := Lib.hid hc
              clear m1 m2 m3 n3 g3 z3 hc
              go_wp2
              go_roundw
              case rel =>
                refine ⟨k + 1, by omega, by go_num, ?_, ⟨_, N3.out, fun s => ?_, fun m hm => ?_⟩, ?_⟩
                · rw [Q1.out, D1.out, T1.out, formR, if_neg (by rw [HG.out]; decide), if_neg (by rw [HT2.out]; simp), HC0.out, List.map_append]
                  rfl
                · rw [T1.out]
                  by_cases hs : s = x
                  · subst hs; simp [upd]
                  · have := M2.out s
                    simp [upd, hs] at this ⊢
                    exact this
                · rw [T1.out] at hm
                  rcases List.mem_append.1 hm with hm | hm
                  · obtain ⟨v', e1, e2, e3⟩ := M3.out m hm
                    refine ⟨v', ?_, e2.mapped M1.out G3.out, e3⟩
                    have hne : m.1 ≠ x := by
                      intro e
                      have h1 := HC0.out
                      rw [← e] at h1
                      have h2 : ((z.take k).map (·.1)).contains m.1 = true := by
                        rw [List.contains_iff_mem]; exact List.mem_map_of_mem hm
                      rw [h1] at h2; cases h2
                    simp [upd, hne, e1]
                  · rw [List.mem_singleton.1 hm]
                    refine ⟨u, by simp [upd], ?_, ?_⟩
                    · show SIn w3 u (usesR y)
                      rw [YT.out]
                      exact IN2.out.mapped M1.out G3.out
                    · show ∀ x ∈ usesR y, _
                      rw [YT.out]; exact GD.out
                · exact (Q3.out.trans (B2.out.mono Q3.out.size)).grown G3.out (Nat.le_trans Q3.out.size B2.out.size) (fun j hj => by injection hj with hj; omega)
              case measure => simp [intOf]; omega
            · rw [hc] at l1
              have F6 : Hid (formR [] z = 6) := by show _ = _; rw [Q1.out, D1.out, formR, if_neg (by rw [HG.out]; decide), if_neg (by rw [HT2.out]; simp), if_pos hc]
              clear m1 m2 m3 hc
              go_wp2
              go_ret2
              exact ⟨Q3.out.trans (B2.out.mono Q3.out.size), .inr ⟨by rw [F6.out]; decide, by rw [F6.out]; rfl⟩⟩
          · have B2 : Hid (Below wr.heap.size wr w2) := (BA.out _).trans (hb.mono (BA.out _).size)
            have F3 : Hid (formR [] z = 3) := by show _ = _; rw [Q1.out, D1.out, formR, if_neg (by rw [HG.out]; decide), if_pos ht]
            clear hb ht ST BA
            go_wp2
            go_ret2
            exact ⟨Q3.out.trans (B2.out.mono Q3.out.size), .inr ⟨by rw [F3.out]; decide, by rw [F3.out]; rfl⟩⟩
      · obtain rfl : k = z.length := by omega
        have F0 : Hid (formR [] z = 0) := by show _ = _; rw [Q1.out, List.drop_length]; rfl
        go_wp2
        go_ret2
        have u := Q2.out
        rw [List.take_length] at u
        exact ⟨Q3.out, .inl ⟨F0.out, rfl, u⟩⟩
end Go.Proofs.YtebjofffijnihaaGreatDoor
namespace Go.Proofs.YtebjofffijnihaaGreatDoor
set_option maxRecDepth 100000
set_option linter.unusedVariables false

def names (l : List Mc) : List Str := l.map (·.1)
theorem names_snoc (o : List Mc) (m : Mc) : names (o ++ [m]) = names o ++ [m.1] := by unfold names; rw [List.map_append]; rfl
def Ord (o : List Mc) : Prop := ∀ (i : Nat) (m : Mc), o[i]? = some m → ∀ x ∈ usesR m.2, x ∈ names (o.take i)
theorem Ord.snoc {o : List Mc} {m : Mc} (h : Ord o) (hm : ∀ x ∈ usesR m.2, x ∈ names o) : Ord (o ++ [m]) := by
  intro i m' hi x hx
  rcases Nat.lt_or_ge i o.length with hl | hl
  · rw [List.getElem?_append_left hl] at hi
    rw [List.take_append_of_le_length (Nat.le_of_lt hl)]
    exact h i m' hi x hx
  · rw [List.getElem?_append_right hl] at hi
    rcases Nat.eq_or_lt_of_le hl with e | e
    · rw [← e, Nat.sub_self] at hi
      simp at hi
      subst hi
      rw [← e, List.take_left]
      exact hm x hx
    · rw [List.getElem?_eq_none (by simp; omega)] at hi
      cases hi
/-- how many are not placed yet -/
def cntU (z o : List Mc) : Nat := (z.filter fun m => !(names o).contains m.1).length
theorem cntU_other {o : List Mc} {m : Mc} : ∀ z : List Mc, (∀ x ∈ z, x.1 ≠ m.1) → cntU z (o ++ [m]) = cntU z o
  | [], _ => rfl
  | a :: r, h => by
    have ih := cntU_other (o := o) (m := m) r (fun x hx => h x (List.mem_cons_of_mem _ hx))
    have ha := h a List.mem_cons_self
    unfold cntU at ih ⊢
    rw [List.filter_cons, List.filter_cons]
    have e : (names (o ++ [m])).contains a.1 = (names o).contains a.1 := by rw [names_snoc]; simp [ha]
    rw [e]
    split
    · rw [List.length_cons, List.length_cons, ih]
    · exact ih
theorem cntU_snoc {o : List Mc} {m : Mc} (hc : (names o).contains m.1 = false) : ∀ z : List Mc, (names z).Nodup → m ∈ z → cntU z (o ++ [m]) + 1 = cntU z o
  | [], _, h => by cases h
  | a :: r, hd, h => by
    have hd' : a.1 ∉ names r ∧ (names r).Nodup := List.nodup_cons.1 hd
    rcases List.mem_cons.1 h with e | h
    · subst e
      have o1 := cntU_other (o := o) (m := m) r (fun x hx e => hd'.1 (by rw [← e]; exact List.mem_map_of_mem hx))
      unfold cntU at o1 ⊢
      rw [List.filter_cons, List.filter_cons, names_snoc, hc]
      rw [names_snoc] at o1
      simp
      simp at o1
      omega
    · have hne : a.1 ≠ m.1 := fun e => hd'.1 (by rw [e]; exact List.mem_map_of_mem h)
      have ih := cntU_snoc hc r hd'.2 h
      unfold cntU at ih ⊢
      rw [List.filter_cons, List.filter_cons]
      have e : (names (o ++ [m])).contains a.1 = (names o).contains a.1 := by rw [names_snoc]; simp [hne]
      rw [e]
      split
      · rw [List.length_cons, List.length_cons]; omega
      · exact ih
theorem nodup_eq {z : List Mc} (hd : (names z).Nodup) : ∀ {a b : Mc}, a ∈ z → b ∈ z → a.1 = b.1 → a = b := by
  induction z with
  | nil => intro a b h; cases h
  | cons c r ih =>
    have hd' : c.1 ∉ names r ∧ (names r).Nodup := List.nodup_cons.1 hd
    intro a b ha hb e
    rcases List.mem_cons.1 ha with ha1 | ha1 <;> rcases List.mem_cons.1 hb with hb1 | hb1
    · rw [ha1, hb1]
    · exact absurd (by rw [← ha1, e]; exact List.mem_map_of_mem hb1) hd'.1
    · exact absurd (by rw [← hb1, ← e]; exact List.mem_map_of_mem ha1) hd'.1
    · exact ih hd'.2 ha1 hb1 e
theorem formR_zero : ∀ (z : List Mc) (seen : List Str), formR seen z = 0 → (names z).Nodup ∧ (∀ m ∈ z, good m.1 = true ∧ tk none m.2 ≠ none) ∧ ∀ m ∈ z, m.1 ∉ seen
  | [], seen, _ => ⟨List.nodup_nil, fun m hm => absurd hm List.not_mem_nil, fun m hm => absurd hm List.not_mem_nil⟩
  | m :: r, seen, h => by
    rw [formR] at h
    split at h
    · cases h
    · rename_i h1
      split at h
      · cases h
      · rename_i h2
        split at h
        · cases h
        · rename_i h3
          obtain ⟨a, b, c⟩ := formR_zero r _ h
          refine ⟨?_, ?_, ?_⟩
          · refine List.nodup_cons.2 ⟨fun e => ?_, a⟩
            obtain ⟨y, hy, e⟩ := List.mem_map.1 e
            exact c y hy (by rw [e]; simp)
          · intro x hx
            rcases List.mem_cons.1 hx with hx | hx
            · subst hx; exact ⟨by simpa using h1, h2⟩
            · exact b x hx
          · intro x hx
            rcases List.mem_cons.1 hx with hx | hx
            · subst hx; simpa using h3
            · exact fun e => c x hx (List.mem_append_left _ e)
/-- what holds of an order under way -/
structure OI (z o : List Mc) : Prop where
  sub : ∀ m ∈ o, m ∈ z
  ord : Ord o
  cnt : cntU z o + o.length = z.length
theorem OI.start (z : List Mc) : OI z [] := by
  refine ⟨fun m hm => absurd hm List.not_mem_nil, fun i m h => by simp at h, ?_⟩
  unfold cntU names
  simp
theorem OI.snoc {z o : List Mc} {m : Mc} (h : OI z o) (hd : (names z).Nodup) (hm : m ∈ z) (hc : (names o).contains m.1 = false) (hu : ∀ x ∈ usesR m.2, x ∈ names o) : OI z (o ++ [m]) := by
  refine ⟨fun x hx => ?_, h.ord.snoc hu, ?_⟩
  · rcases List.mem_append.1 hx with hx | hx
    · exact h.sub x hx
    · rw [List.mem_singleton.1 hx]; exact hm
  · have h1 := cntU_snoc hc z hd hm
    have h2 := h.cnt
    rw [List.length_append, List.length_singleton]; omega
theorem OI.done {z o : List Mc} (h : OI z o) (hd : (names z).Nodup) (hl : z.length ≤ o.length) : ∀ m, m ∈ o ↔ m ∈ z := by
  intro m
  refine ⟨h.sub m, fun hm => ?_⟩
  have h0 : cntU z o = 0 := by have := h.cnt; omega
  have h1 := List.filter_eq_nil_iff.1 (List.length_eq_zero_iff.1 h0) m hm
  have h2 : m.1 ∈ names o := by simpa using h1
  obtain ⟨y, hy, e⟩ := List.mem_map.1 h2
  rw [← nodup_eq hd (h.sub y hy) hm e]; exact hy
theorem OI.more {z o : List Mc} (h : OI z o) (hl : o.length < z.length) : ∃ m ∈ z, m.1 ∉ names o := by
  have h0 : cntU z o ≠ 0 := by have := h.cnt; omega
  have h1 : (z.filter fun m => !(names o).contains m.1) ≠ [] := fun e => h0 (by unfold cntU; rw [e]; rfl)
  obtain ⟨m, hm⟩ := List.exists_mem_of_ne_nil _ h1
  obtain ⟨a, b⟩ := List.mem_filter.1 hm
  exact ⟨m, a, by simpa using b⟩
def Refs (z : List Mc) : Prop := ∀ m ∈ z, ∀ x ∈ usesR m.2, x ∈ names z
def Block (o : List Mc) (m : Mc) : Prop := m.1 ∈ names o ∨ ∃ x ∈ usesR m.2, x ∉ names o
def Stuck (z : List Mc) : Prop := ∃ P : List Str, (∃ m ∈ z, m.1 ∉ P) ∧ ∀ m ∈ z, m.1 ∉ P → ∃ x ∈ usesR m.2, x ∉ P
/-- what usedFirst hands back -/
def OPost (z : List Mc) (w : World) (e : Ending) (w' : World) : Prop :=
  RowKit.Below w.heap.size w w' ∧ ((40 < z.length ∧ e = .returned (.tuple #[.slice none 0 0, .int .i64 2])) ∨ (z.length ≤ 40 ∧
    ((formR [] z ≠ 0 ∧ e = .returned (.tuple #[.slice none 0 0, .int .i64 (formR [] z)])) ∨ (formR [] z = 0 ∧
      (((∃ m ∈ z, ∃ x ∈ usesR m.2, x ∉ names z) ∧ e = .returned (.tuple #[.slice none 0 0, .int .i64 5])) ∨ (Refs z ∧
        ((Stuck z ∧ e = .returned (.tuple #[.slice none 0 0, .int .i64 8])) ∨
          ∃ o v, McIn w' v o ∧ Ord o ∧ (∀ m, m ∈ o ↔ m ∈ z) ∧ e = .returned (.tuple #[v, .int .i64 0]))))))))
end Go.Proofs.YtebjofffijnihaaGreatDoor
namespace Go.Proofs.YtebjofffijnihaaGreatDoor
set_option maxRecDepth 100000
set_option linter.unusedVariables false
open Go.ChangeShapes Go.WideShapes Go.ChangeAt Go.RowKit

/-- a row of macros of the call's own -/
def MO (B : Nat) (v : Value) (o : List Mc) (w : World) : Prop := w.ownsRow B 109 2 v o.length (mcCells o)
theorem MO.snoc {B : Nat} {v : Value} {o : List Mc} {x y : Str} {w : World} (h : w.ownsRow B 109 2 v (o.length + 1) (mcCells o ++ [.string (bs x), .string (bs y)])) : MO B v (o ++ [(x, y)]) w := by
  unfold MO; rw [List.length_append, mcCells_snoc]; exact h
theorem MO.later {B : Nat} {v : Value} {o : List Mc} {w w' : World} (h : MO B v o w) (hb : Below w.heap.size w w') : MO B v o w' := by
  refine World.ownsRow.kept (row := none) h ⟨hb.os, hb.tape, hb.output, hb.size, fun k hk _ => hb.block k hk⟩ ?_
  cases e : v.ownBlock <;> simp
def lenOf : Value → Nat
  | .slice _ n _ => n
  | _ => 0
theorem MO.len {B : Nat} {v : Value} {o : List Mc} {w : World} (h : MO B v o w) : ∃ a c, v = .slice a o.length c := by
  rcases h.2 with ⟨h, h0⟩ | ⟨g, cap, cur, h, _⟩
  · exact ⟨_, _, by rw [h, h0]⟩
  · exact ⟨_, _, h⟩
theorem two_new (w : World) (x y : Value) (t : TypeId) : ∀ j u, [x, y][j]? = some u → (w.alloc (.cells #[x, y] t)).cell? ((⟨w.heap.size, 0, none⟩ : Addr).add j) = some u := by
  intro j u h
  rw [add_off]
  have hh : (w.alloc (.cells #[x, y] t)).heap[w.heap.size]? = some (.cells #[x, y] t) := heap_alloc_new _ _
  unfold World.cell?
  rw [hh]
  match j, h with
  | 0, h => simpa using h
  | 1, h => simpa using h

set_option maxHeartbeats 8000000 in
set_option maxRecDepth 100000 in
theorem first_any (z : List Mc) (v : Value) (w : World) (h : McIn w v z) (hx : ∀ m ∈ z, m.1.length ≤ maxLen ∧ m.2.length ≤ 4294967296) :
    Calls Tryz.prog 113 #[v] w (OPost z w) := by
  have hmm := @run_makeMap Tryz.prog
  by_cases hn : z.length ≤ 40
  · have BY := Lib.hid (by_any z v w h hn hx)
    have HN := Lib.hid hn
    have HM := Lib.hid h
    have HX := Lib.hid hx
    have t1 : decide (40 < (z.length : Int)) = false := decide_eq_false (by omega)
    obtain ⟨a, cap, rfl, _⟩ := h
    clear hn hx
    go_enter Tryz.func113, Tryz.ntmps113
    go_wp2_with fail
    refine BY.out.mono ?_
    rintro e w1 ⟨hb, (⟨h0, rfl, hu⟩ | ⟨h0, rfl⟩)⟩
    · have B1 := Lib.hid hb
      have H0 := Lib.hid h0
      have U1 := Lib.hid hu
      have ND := Lib.hid (formR_zero z [] h0).1
      have MZ := Lib.hid (HM.out.later hb)
      clear hb h0 BY hu HM
      rcases MZ.out.open with ⟨rfl, _, _, _⟩ | ⟨hp, b, off, cap', e1, hcap, hlt, hc⟩
      · clear MZ
        have AB : Hid (∀ o, Below w.heap.size w (w1.alloc o)) := fun o => B1.out.alloc B1.out.size o
        go_wp2_with fail
        go_rounds 1
        go_wp2_with fail
        go_rounds 1
        go_ret2
        refine ⟨AB.out _, .inr ⟨HN.out, .inr ⟨H0.out, .inr ⟨fun m hm => absurd hm List.not_mem_nil, .inr ⟨[], _, ⟨none, 0, rfl, Nat.le_refl _, Nat.zero_le _, Nat.zero_le _, .inl rfl⟩, (OI.start []).ord, fun m => Iff.rfl, rfl⟩⟩⟩⟩⟩
      · obtain ⟨rfl, rfl⟩ : a = some ⟨b, off, none⟩ ∧ cap = cap' := by simpa using e1
        have HC : Hid (∀ W, Below w1.heap.size w1 W → ∀ k, k < z.length → W.cell? ⟨b, off + k * 2, none⟩ = some (.string (bs (nm z k))) ∧ W.cell? ⟨b, off + k * 2 + 1, none⟩ = some (.string (bs (vl z k)))) := fun W hW k hk => ⟨cell_later hW (hc k _ (at_some hk)).1, cell_later hW (hc k _ (at_some hk)).2⟩
        have HL : Hid (∀ k, k < z.length → (nm z k).length ≤ maxLen) := fun k hk => (HX.out _ (mem_at hk)).1
        have HT : Hid (∀ k, k < z.length → z.take (k + 1) = z.take k ++ [(nm z k, vl z k)]) := fun k hk => take_at hk
        have HI : Hid (∀ k, k < z.length → (nm z k, vl z k) ∈ z) := fun k hk => mem_at hk
        obtain ⟨i0, hi, hz0, hz1, hz2⟩ := info_parts infoMc
        have IH := Lib.hid hi
        clear e1 hc hlt MZ HX hi
        generalize nm z = f at *
        generalize vl z = g at *
        go_wp2_with fail
        go_loopw [26] (fun i wr => ∃ k : Nat, k ≤ z.length ∧ i = .int .i64 (k : Int) ∧ (∀ m ∈ z.take k, ∀ x ∈ usesR m.2, x ∈ names z) ∧ Below w1.heap.size w1 wr) (fun i _ => z.length - (intOf i).toNat)
        case atStart => exact ⟨0, Nat.zero_le _, rfl, fun m hm => absurd hm (by simp), Below.refl _ _⟩
        case round =>
          obtain ⟨k, hk, rfl, q1, q2⟩ := hrel
          have Q1 := Lib.hid q1; have Q2 := Lib.hid q2; clear q1 q2
          by_cases hk2 : k < z.length
          · obtain ⟨c1, c2⟩ := HC.out wr Q2.out k hk2
            have T1 := Lib.hid (HT.out k hk2)
            have I1 := Lib.hid (HI.out k hk2)
            have X1 := Lib.hid (HL.out k hk2)
            generalize f k = x at *
            generalize g k = y at *
            have BA : Hid (∀ o, Below w1.heap.size w1 (wr.alloc o)) := fun o => Q2.out.alloc Q2.out.size o
            obtain ⟨fm, m1, m2, m3⟩ := U1.out.later (BA.out (.cells #[.string (bs x), .string (bs y)] 109))
            obtain ⟨v', e1, e2, e3⟩ := m3 _ I1.out
            have l1 := m1.look (t := 70) (e := 23) (z := .slice none 0 0) (x := x) Tryz.underlying70 (Tryz.zeroValue23 _) X1.out
            rw [show (fm x).getD (.slice none 0 0) = v' by rw [e1]; rfl] at l1
            have HA := Lib.hid (has_l (usesR y) v' w.heap.size z.length fm _ m1 e2 (fun s hs => by have := (good_len (e3 s hs)).2; unfold maxLen; omega))
            have M2 : Hid (∀ s, (fm s).isSome = (names z).contains s) := m2
            clear m1 m2 m3 e1 e2 e3
            cases ha : (usesR y).all fun s => (fm s).isSome
            · rw [ha] at HA
              have NO : Hid (∃ m ∈ z, ∃ s ∈ usesR m.2, s ∉ names z) := by
                have : ¬ ((usesR y).all fun s => (fm s).isSome) = true := by rw [ha]; decide
                rw [List.all_eq_true] at this
                simp only [Classical.not_forall] at this
                obtain ⟨s, hs, h2⟩ := this
                rw [M2.out s] at h2
                exact ⟨_, I1.out, s, hs, by simpa using h2⟩
              clear ha
              go_wp2_with fail
              refine HA.out.mono ?_
              rintro e w3 ⟨rfl, hb3⟩
              have B3 : Hid (Below w1.heap.size w1 w3) := (BA.out _).trans (hb3.mono (BA.out _).size)
              clear hb3
              go_wp2
              go_ret2
              exact ⟨B1.out.trans (B3.out.mono B1.out.size), .inr ⟨HN.out, .inr ⟨H0.out, .inl ⟨NO.out, rfl⟩⟩⟩⟩
            · rw [ha] at HA
              have YES : Hid (∀ s ∈ usesR y, s ∈ names z) := by
                intro s hs
                have := List.all_eq_true.1 ha s hs
                rw [M2.out s] at this
                simpa using this
              clear ha
              go_wp2_with fail
              refine HA.out.mono ?_
              rintro e w3 ⟨rfl, hb3⟩
              have B3 : Hid (Below w1.heap.size w1 w3) := (BA.out _).trans (hb3.mono (BA.out _).size)
              clear hb3
              go_wp2
              go_roundw
              case rel =>
                refine ⟨k + 1, by omega, by go_num, fun m hm => ?_, B3.out⟩
                rw [T1.out] at hm
                rcases List.mem_append.1 hm with hm | hm
                · exact Q1.out m hm
                · rw [List.mem_singleton.1 hm]; exact YES.out
              case measure => simp [intOf]; omega
          · obtain rfl : k = z.length := by omega
            have RF : Hid (Refs z) := by have := Q1.out; rw [List.take_length] at this; exact this
            have M0 := Lib.hid (MI.made wr)
            have UW := Lib.hid (U1.out.later Q2.out)
            have CW : Hid (∀ W, Below wr.heap.size wr W → ∀ k, k < z.length → W.cell? ⟨b, off + k * 2, none⟩ = some (.string (bs (f k))) ∧ W.cell? ⟨b, off + k * 2 + 1, none⟩ = some (.string (bs (g k)))) := fun W hW k hk => HC.out W (Q2.out.trans (hW.mono Q2.out.size)) k hk
            have BW : Hid (∀ W, Below wr.heap.size wr W → Below w.heap.size w W) := fun W hW => (B1.out.trans (Q2.out.mono B1.out.size)).trans (hW.mono (Nat.le_trans B1.out.size Q2.out.size))
            clear Q1 Q2 U1 HC B1 hk hk2
            rename World => W2
            go_wp2_with fail
            go_loopw [9] (fun o9 wq => ∃ o, OI z o ∧ MI W2.heap.size o.length (fS (names o)) wq ∧ MO (W2.heap.size + 1) o9 o wq ∧ Below W2.heap.size W2 wq) (fun o9 _ => z.length - lenOf o9)
            case atStart => exact ⟨[], OI.start z, M0.out.congr (fun s => rfl), World.ownsRow_nil _ _ _ _, (Below.refl _ _).alloc (Nat.le_refl _) _⟩
            case round =>
              obtain ⟨o, q1, q2, q3, q4⟩ := hrel
              obtain ⟨a9, c9, rfl⟩ := q3.len
              have Q1 := Lib.hid q1; have Q2 := Lib.hid q2; have Q3 := Lib.hid q3; have Q4 := Lib.hid q4; clear q1 q2 q3 q4
              by_cases hlo : o.length < z.length
              · have t3 : decide ((o.length : Int) < (z.length : Int)) = true := decide_eq_true (by omega)
                go_wp2_with fail
                go_loopw [48, 9] (fun i o9 wq => ∃ (k : Nat) (p : List Mc), k ≤ z.length ∧ i = .int .i64 (k : Int) ∧ OI z p ∧ MI W2.heap.size p.length (fS (names p)) wq ∧ MO (W2.heap.size + 1) o9 p wq ∧ Below W2.heap.size W2 wq ∧ ((p = o ∧ ∀ m ∈ z.take k, Block o m) ∨ o.length < p.length)) (fun i _ _ => z.length - (intOf i).toNat)
                case atStart => exact ⟨0, o, Nat.zero_le _, rfl, Q1.out, Q2.out, Q3.out, Q4.out, .inl ⟨rfl, fun m hm => absurd hm (by simp)⟩⟩
                case round =>
                  clear Q1 Q2 Q3 Q4
                  obtain ⟨k, p, hk, rfl, q1, q2, q3, q4, q5⟩ := hrel
                  obtain ⟨a8, c8, rfl⟩ := q3.len
                  have Q1 := Lib.hid q1; have Q2 := Lib.hid q2; have Q3 := Lib.hid q3; have Q4 := Lib.hid q4; have Q5 := Lib.hid q5; clear q1 q2 q3 q4 q5
                  rename World => W3
                  by_cases hk2 : k < z.length
                  · obtain ⟨c1, c2⟩ := CW.out W3 Q4.out k hk2
                    have T1 := Lib.hid (HT.out k hk2)
                    have I1 := Lib.hid (HI.out k hk2)
                    have X1 := Lib.hid (HL.out k hk2)
                    generalize f k = x at *
                    generalize g k = y at *
                    have ST := Lib.hid (stay_new W3 (.string (bs x)) (.string (bs y)))
                    have BA : Hid (Below W2.heap.size W2 (W3.alloc (.cells #[.string (bs x), .string (bs y)] 109))) := Q4.out.alloc Q4.out.size _
                    have MA : Hid (MI W2.heap.size p.length (fS (names p)) (W3.alloc (.cells #[.string (bs x), .string (bs y)] 109))) := Q2.out.alloc _
                    have OA : Hid (MO (W2.heap.size + 1) (.slice a8 p.length c8) p (W3.alloc (.cells #[.string (bs x), .string (bs y)] 109))) := World.ownsRow.alloc Q3.out _
                    have l0 := MA.out.look (t := 190) (e := 4) (z := .bool false) (x := x) Tryz.underlying190 (Tryz.zeroValue4 _) X1.out
                    cases hin : (names p).contains x
                    · rw [show (fS (names p) x).getD (.bool false) = .bool false by unfold fS; rw [hin]; rfl] at l0
                      have HIN := Lib.hid hin
                      obtain ⟨fm, m1, m2, m3⟩ := UW.out.later BA.out
                      obtain ⟨v', e1, e2, e3⟩ := m3 _ I1.out
                      have l1 := m1.look (t := 70) (e := 23) (z := .slice none 0 0) (x := x) Tryz.underlying70 (Tryz.zeroValue23 _) X1.out
                      rw [show (fm x).getD (.slice none 0 0) = v' by rw [e1]; rfl] at l1
                      have HA := Lib.hid (has_b (usesR y) v' W2.heap.size p.length (fS (names p)) _ MA.out e2 (fun s hs => by have := (good_len (e3 s hs)).2; unfold maxLen; omega))
                      have FS : Hid (∀ s, (fS (names p) s).isSome = (names p).contains s) := fun s => by unfold fS; cases (names p).contains s <;> rfl
                      clear m1 m2 m3 e1 e2 e3 hin
                      cases ha : (usesR y).all fun s => (fS (names p) s).isSome
                      · rw [ha] at HA
                        have NO : Hid (∃ s ∈ usesR y, s ∉ names p) := by
                          have : ¬ ((usesR y).all fun s => (fS (names p) s).isSome) = true := by rw [ha]; decide
                          rw [List.all_eq_true] at this
                          simp only [Classical.not_forall] at this
                          obtain ⟨s, hs, h2⟩ := this
                          rw [FS.out s] at h2
                          exact ⟨s, hs, by simpa using h2⟩
                        clear ha
                        go_wp2_with fail
                        refine HA.out.mono ?_
                        rintro e w3 ⟨rfl, hb3⟩
                        have B3 : Hid (Below W2.heap.size W2 w3) := BA.out.trans (hb3.mono BA.out.size)
                        have M3 := Lib.hid (MA.out.later hb3)
                        have O3 := Lib.hid (MO.later OA.out hb3)
                        clear hb3
                        go_wp2
                        go_roundw
                        case rel =>
                          refine ⟨k + 1, p, by omega, by go_num, Q1.out, M3.out, O3.out, B3.out, ?_⟩
                          rcases Q5.out with ⟨rfl, h5⟩ | h5
                          · refine .inl ⟨rfl, fun m hm => ?_⟩
                            rw [T1.out] at hm
                            rcases List.mem_append.1 hm with hm | hm
                            · exact h5 m hm
                            · rw [List.mem_singleton.1 hm]; exact .inr NO.out
                          · exact .inr h5
                        case measure => simp [intOf]; omega
                      · rw [ha] at HA
                        have YES : Hid (∀ s ∈ usesR y, s ∈ names p) := by
                          intro s hs
                          have := List.all_eq_true.1 ha s hs
                          rw [FS.out s] at this
                          simpa using this
                        clear ha
                        go_wp2_with fail
                        refine HA.out.mono ?_
                        rintro e w3 ⟨rfl, hb3⟩
                        have B3 : Hid (Below W2.heap.size W2 w3) := BA.out.trans (hb3.mono BA.out.size)
                        have O3 := Lib.hid (MO.later OA.out hb3)
                        have S3 := Lib.hid (ST.out.later hb3)
                        have M3 := Lib.hid (MA.out.later hb3)
                        have PL : Hid (p.length < 40) := by
                          have h1 := Q1.out.cnt
                          have h2 := cntU_snoc (m := (x, y)) HIN.out z ND.out I1.out
                          have h3 := HN.out
                          show _ < _
                          omega
                        obtain ⟨w4, r4, n4, g4, z4⟩ := M3.out.store (t := 190) (e := 4) (x := x) Tryz.underlying190 (by have := PL.out; unfold maxLen; omega) X1.out (.bool true)
                        obtain ⟨d1, d2⟩ := S3.out.cells
                        have LW : Hid (W2.heap.size < w4.heap.size) := by have := M3.out.lt; show _ < _; omega
                        have LV : Hid (∀ j, (Value.slice a8 p.length c8).ownBlock = some j → W2.heap.size + 1 ≤ j) := fun j hj => (O3.out.lt j hj).1
                        have O4 : Hid (MO (W2.heap.size + 1) (.slice a8 p.length c8) p w4) := World.ownsRow.kept O3.out g4 (by
                          cases e : (Value.slice a8 p.length c8).ownBlock with
                          | none => exact .inl rfl
                          | some j => right; intro hh; injection hh with hh; have := LV.out j e; omega)
                        have S4 : Hid (Stay W3.heap.size (.string (bs x)) (.string (bs y)) w4) := (g4.block _ (lt_of_block S3.out) (fun hh => by injection hh with hh; have := Q4.out.size; have := Q2.out.lt; omega)).trans S3.out
                        obtain ⟨f1, f2⟩ := S4.out.cells
                        have N4 := Lib.hid n4
                        have B4 : Hid (Below W2.heap.size W2 w4) := B3.out.grown g4 B3.out.size (fun j hj => by injection hj with hj; omega)
                        have OW : Hid (∀ o', (w4.alloc o').ownsRow (W2.heap.size + 1) 109 2 (.slice a8 p.length c8) p.length (mcCells p)) := fun o' => World.ownsRow.alloc O4.out o'
                        have SW : Hid (∀ o', W2.heap.size + 1 ≤ (w4.alloc o').heap.size) := fun o' => by
                          have : (w4.alloc o').heap.size = w4.heap.size + 1 := by simp
                          have := LW.out
                          omega
                        clear hb3 n4 g4 z4 S3 O3
                        have pl := PL.out
                        go_wp2_with (at_builtin; go_must (refine wpList_append_own _ rfl (.tmp 68) (.tmp 70) 22 rfl (W2.heap.size + 1) 109 i0 (.agg #[.string ByteArray.empty, .string ByteArray.empty]) 2 32 Tryz.underlying22 IH.out hz0 hz1 hz2 rfl (by decide) _ _ _ rfl (OW.out _) ⟨w4.heap.size, 0, none⟩ 1 1 [.string (bs x), .string (bs y)] rfl rfl (two_new _ _ _ _) (by intro u hu; simp at hu; rcases hu with rfl | rfl <;> rfl) (by unfold maxLen; omega) (by omega) (SW.out _) ?_; intro v5 w5 q1 q2 q3; have O5 := Lib.hid q1; have G5 := Lib.hid q2; clear q1 q2 q3))
                        go_roundw
                        case rel =>
                          refine ⟨k + 1, p ++ [(x, y)], by omega, by go_num, Q1.out.snoc ND.out I1.out HIN.out YES.out, ?_, MO.snoc O5.out, ?_, .inr ?_⟩
                          · rw [List.length_append, names_snoc]
                            refine MI.grown (MI.alloc (MI.congr N4.out (fS_upd (names p) x)) _) G5.out (fun hh => by have := LV.out _ hh.symm; omega)
                          · exact (B4.out.alloc (Nat.le_of_lt LW.out) _).grown G5.out (by have := SW.out (.cells #[.string (bs x), .string (bs y)] 109); omega) (fun j hj => by have := LV.out j hj; omega)
                          · rw [List.length_append, List.length_singleton]
                            rcases Q5.out with ⟨rfl, _⟩ | h5
                            · omega
                            · omega
                        case measure => simp [intOf]; omega
                    · rw [show (fS (names p) x).getD (.bool false) = .bool true by unfold fS; rw [hin]; rfl] at l0
                      have HIN := Lib.hid hin; clear hin
                      go_wp2
                      go_roundw
                      case rel =>
                        refine ⟨k + 1, p, by omega, by go_num, Q1.out, MA.out, OA.out, BA.out, ?_⟩
                        rcases Q5.out with ⟨rfl, h5⟩ | h5
                        · refine .inl ⟨rfl, fun m hm => ?_⟩
                          rw [T1.out] at hm
                          rcases List.mem_append.1 hm with hm | hm
                          · exact h5 m hm
                          · rw [List.mem_singleton.1 hm]; exact .inl (List.contains_iff_mem.1 HIN.out)
                        · exact .inr h5
                      case measure => simp [intOf]; omega
                  · obtain rfl : k = z.length := by omega
                    rcases Q5.out with ⟨rfl, h5⟩ | h5
                    · have ST : Hid (Stuck z) := by
                        rw [List.take_length] at h5
                        exact ⟨names p, Q1.out.more hlo, fun m hm hne => (h5 m hm).resolve_left hne⟩
                      clear h5 Q5
                      go_wp2
                      go_ret2
                      exact ⟨BW.out _ Q4.out, .inr ⟨HN.out, .inr ⟨H0.out, .inr ⟨RF.out, .inl ⟨ST.out, rfl⟩⟩⟩⟩⟩
                    · have t4 : ((p.length : Int) == (o.length : Int)) = false := by rw [beq_eq_false_iff_ne]; omega
                      have H5 := Lib.hid h5; clear h5 Q5
                      go_wp2
                      go_roundw
                      case rel => exact ⟨p, Q1.out, Q2.out, Q3.out, Q4.out⟩
                      case measure => have := H5.out; simp [lenOf]; omega
              · have t3 : decide (o.length < z.length) = false := decide_eq_false hlo
                have DN := Lib.hid (Q1.out.done ND.out (by omega))
                have OL : Hid (o.length ≤ 8796093022208) := by have h1 := Q1.out.cnt; have h2 := HN.out; show _ ≤ _; omega
                clear hlo
                go_wp2
                go_ret2
                exact ⟨BW.out _ Q4.out, .inr ⟨HN.out, .inr ⟨H0.out, .inr ⟨RF.out, .inr ⟨o, _, McIn.own Q3.out OL.out, Q1.out.ord, DN.out, rfl⟩⟩⟩⟩⟩
    · have B1 := Lib.hid hb
      have H0 := Lib.hid h0
      have t2 : (formR [] z != 0) = true := by simpa using h0
      clear hb h0 BY
      go_wp2
      go_ret2
      exact ⟨B1.out, .inr ⟨HN.out, .inl ⟨H0.out, rfl⟩⟩⟩
  · have t1 : decide (40 < (z.length : Int)) = true := decide_eq_true (by omega)
    have HN := Lib.hid hn
    obtain ⟨a, cap, rfl, _⟩ := h
    clear hn hx
    go_enter Tryz.func113, Tryz.ntmps113
    go_wp2
    go_ret2
    exact ⟨Below.refl _ _, .inl ⟨by have := HN.out; omega, rfl⟩⟩
end Go.Proofs.YtebjofffijnihaaGreatDoor
