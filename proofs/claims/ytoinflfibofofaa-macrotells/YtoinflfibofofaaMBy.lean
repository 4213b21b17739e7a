/-
  Package macro's usesByName. Condition: at most 40 macros, their strings of at most 2^32 bytes.
-/
import Derived.Test.YtoinflfibofofaaMHas
namespace Go.Proofs.Ytoinflfibofofaa
set_option linter.unusedVariables false
open Go.ChangeShapes Go.WideShapes Go.ChangeAt Go.RowKit

def nm (z : List Mc) (k : Nat) : Str := (z.getD k ([], [])).1
def vl (z : List Mc) (k : Nat) : Str := (z.getD k ([], [])).2
theorem at_some {z : List Mc} {k : Nat} (h : k < z.length) : z[k]? = some (nm z k, vl z k) := by
  unfold nm vl; rw [List.getD, List.getElem?_eq_getElem h]; rfl
theorem mem_at {z : List Mc} {k : Nat} (h : k < z.length) : (nm z k, vl z k) ∈ z := List.mem_of_getElem? (at_some h)
theorem drop_at {z : List Mc} {k : Nat} (h : k < z.length) : z.drop k = (nm z k, vl z k) :: z.drop (k + 1) := by
  rw [List.drop_eq_getElem_cons h]
  have := at_some h
  rw [List.getElem?_eq_getElem h] at this
  rw [Option.some.inj this]
theorem take_at {z : List Mc} {k : Nat} (h : k < z.length) : z.take (k + 1) = z.take k ++ [(nm z k, vl z k)] := by
  rw [List.take_add_one, at_some h]; rfl

/-- the first fault of names and values -/
def formR : List Str → List Mc → Int
  | _, [] => 0
  | seen, m :: r => if good m.1 = false then 3 else if tk none m.2 = none then 3 else if seen.contains m.1 then 6 else formR (seen ++ [m.1]) r

/-- the macro in block k stays -/
def Stay (k : Nat) (x : Value) (y : Value) (w : World) : Prop := w.heap[k]? = some (.cells #[x, y] 25 (0, 0))
theorem Stay.cells {k : Nat} {x y : Value} {w : World} (h : Stay k x y w) : w.cell? ⟨k, 0, none⟩ = some x ∧ w.cell? ⟨k, 1, none⟩ = some y := by
  unfold Stay at h
  unfold World.cell?
  simp [h]
theorem Stay.later {k : Nat} {x y : Value} {w w' : World} (h : Stay k x y w) (hb : Below w.heap.size w w') : Stay k x y w' := by
  unfold Stay at h ⊢
  exact (hb.block _ (lt_of_block h)).trans h
theorem stay_new (w : World) (x y : Value) : Stay w.heap.size x y (w.alloc (.cells #[x, y] 25)) := by unfold Stay; exact heap_alloc_new _ _

/-- strings stay where a map is written -/
theorem SIn.mapped {w w' : World} {v : Value} {z : List Str} {b n : Nat} {f : Str → Option Value} (h : SIn w v z) (hm : MI b n f w) (g : w.grownBy w' (some b)) : SIn w' v z := by
  obtain ⟨a, cap, h1, h2, h3, h4, h5⟩ := h
  refine ⟨a, cap, h1, h2, h3, h4, ?_⟩
  by_cases h0 : z = []
  · exact .inl h0
  · rcases h5 with h5 | ⟨c, off, e1, e2, e3⟩
    · exact .inl h5
    · have hp := List.length_pos_iff.2 h0
      have hne : c ≠ b := by
        rintro rfl
        obtain ⟨D, ⟨es, clock, hb, _⟩, _⟩ := hm
        have := e3 0 hp
        simp [World.cell?, hb] at this
      refine .inr ⟨c, off, e1, Nat.lt_of_lt_of_le e2 g.size, fun k hk => ?_⟩
      exact g.cell (e3 k hk) (by simpa using hne)

/-- block b is a map that holds the names that each macro of l refers to -/
def UM (l : List Mc) (b n : Nat) (w : World) : Prop :=
  ∃ f, MI b n f w ∧ (∀ x, (f x).isSome = (l.map (·.1)).contains x) ∧ ∀ m ∈ l, ∃ v, f m.1 = some v ∧ SIn w v (usesR m.2) ∧ ∀ x ∈ usesR m.2, good x = true
theorem UM.later {l : List Mc} {b n : Nat} {w w' : World} (h : UM l b n w) (hb : Below w.heap.size w w') : UM l b n w' := by
  obtain ⟨f, h1, h2, h3⟩ := h
  refine ⟨f, h1.later hb, h2, fun m hm => ?_⟩
  obtain ⟨v, e1, e2, e3⟩ := h3 m hm
  exact ⟨v, e1, e2.later hb, e3⟩
/-- what usesByName hands back -/
def BPost (z : List Mc) (w : World) (e : Ending) (w' : World) : Prop :=
  Below w.heap.size w w' ∧ ((formR [] z = 0 ∧ e = .returned (.tuple #[.map (some w.heap.size), .int .i64 0]) ∧ UM z w.heap.size z.length w') ∨ (formR [] z ≠ 0 ∧ e = .returned (.tuple #[.map none, .int .i64 (formR [] z)])))
set_option maxHeartbeats 4000000 in
set_option maxRecDepth 100000 in
theorem by_any (z : List Mc) (v : Value) (w : World) (h : McIn w v z) (hn : z.length ≤ 40) (hx : ∀ m ∈ z, m.1.length ≤ maxLen ∧ m.2.length ≤ 4294967296) :
    Calls Try.prog 49 #[v] w (BPost z w) := by
  have hmm := @run_makeMap Try.prog
  have M0 := Lib.hid (MI.made w)
  rcases h.open with ⟨rfl, a, cap, rfl⟩ | ⟨hp, b, off, cap, rfl, hcap, hlt, hc⟩
  · clear h hx hn
    go_enter Try.func49, Try.ntmps49
    go_wp2_with fail
    go_rounds 1
    go_ret2
    exact ⟨(Below.refl _ _).alloc (Nat.le_refl _) _, .inl ⟨rfl, rfl, _, M0.out, fun _ => rfl, fun m hm => absurd hm List.not_mem_nil⟩⟩
  · have HC : Hid (∀ W, Below w.heap.size w W → ∀ k, k < z.length → W.cell? ⟨b, off + k * 2, none⟩ = some (.string (bs (nm z k))) ∧ W.cell? ⟨b, off + k * 2 + 1, none⟩ = some (.string (bs (vl z k)))) := fun W hW k hk => ⟨cell_later hW (hc k _ (at_some hk)).1, cell_later hW (hc k _ (at_some hk)).2⟩
    have HX : Hid (∀ k, k < z.length → (nm z k).length ≤ maxLen ∧ (vl z k).length ≤ 4294967296) := fun k hk => hx _ (mem_at hk)
    have HT : Hid (∀ k, k < z.length → z.take (k + 1) = z.take k ++ [(nm z k, vl z k)]) := fun k hk => take_at hk
    have HD : Hid (∀ k, k < z.length → z.drop k = (nm z k, vl z k) :: z.drop (k + 1)) := fun k hk => drop_at hk
    clear h hc hx hlt
    generalize nm z = f at *
    generalize vl z = g at *
    go_enter Try.func49, Try.ntmps49
    go_wp2_with fail
    go_loopw [15] (fun i wr => ∃ k : Nat, k ≤ z.length ∧ i = .int .i64 (k : Int) ∧ formR [] z = formR ((z.take k).map (·.1)) (z.drop k) ∧ UM (z.take k) w.heap.size k wr ∧ Below w.heap.size w wr) (fun i _ => z.length - (intOf i).toNat)
    case atStart => exact ⟨0, Nat.zero_le _, rfl, rfl, ⟨_, M0.out, fun _ => rfl, fun m hm => absurd hm (by simp)⟩, (Below.refl _ _).alloc (Nat.le_refl _) _⟩
    case round =>
      obtain ⟨k, hk, rfl, q1, q2, q3⟩ := hrel
      have Q1 := Lib.hid q1; have Q2 := Lib.hid q2; have Q3 := Lib.hid q3; clear q1 q2 q3
      by_cases hk2 : k < z.length
      · obtain ⟨c1, c2⟩ := HC.out wr Q3.out k hk2
        have T1 := Lib.hid (HT.out k hk2)
        have D1 := Lib.hid (HD.out k hk2)
        obtain ⟨x1, x2⟩ := HX.out k hk2
        have X1 := Lib.hid x1; have X2 := Lib.hid x2; clear x1 x2
        have ST := Lib.hid (stay_new wr (.string (bs (f k))) (.string (bs (g k))))
        have BA : Hid (∀ o, Below wr.heap.size wr (wr.alloc o)) := fun o => (Below.refl _ _).alloc (Nat.le_refl _) o
        have NS : Hid ((bs (f k)).size ≤ 9223372036854775807) := by have := X1.out; unfold maxLen at this; show _ ≤ _; rw [bs_size]; omega
        generalize f k = x at *
        generalize g k = y at *
        go_wp2_with fail
        refine (check_any (bs x) _ NS.out).mono ?_
        rintro e w1 ⟨rfl, rfl⟩
        rw [bs_list]
        cases hg : good x
        · have F3 : Hid (formR [] z = 3) := by show _ = _; rw [Q1.out, D1.out, formR, if_pos hg]
          clear hg
          go_wp2
          go_ret2
          exact ⟨Q3.out.trans ((BA.out _).mono Q3.out.size), .inr ⟨by rw [F3.out]; decide, by rw [F3.out]; rfl⟩⟩
        · have HG := Lib.hid hg; clear hg
          go_wp2_with fail
          refine (uses_any y _ X2.out).mono ?_
          rintro e w2 ⟨hb, (⟨T, u, ht, rfl, hin, hgd⟩ | ⟨ht, rfl⟩)⟩
          · have B2 : Hid (Below wr.heap.size wr w2) := (BA.out _).trans (hb.mono (BA.out _).size)
            have S2 := Lib.hid (ST.out.later hb)
            have U2 := Lib.hid (Q2.out.later B2.out)
            have IN2 := Lib.hid hin
            have GD := Lib.hid hgd
            have YT : Hid (usesR y = dd T) := by show _ = _; unfold usesR; rw [ht]
            have HT2 := Lib.hid ht
            clear hb hin hgd ht ST BA
            obtain ⟨d1, d2⟩ := S2.out.cells
            obtain ⟨fm, m1, m2, m3⟩ := U2.out
            have l1 := m1.look_ok (t := 87) (e := 32) (z := .slice none 0 0) (x := x) Try.underlying87 (Try.zeroValue32 w2) X1.out
            have M2 := Lib.hid m2
            have M3 := Lib.hid m3
            have E1 := Lib.hid (m2 x)
            rw [m2 x] at l1
            obtain ⟨y1, hy1⟩ : ∃ y1, y1 = (fm x).getD (.slice none 0 0) := ⟨_, rfl⟩
            rw [← hy1] at l1
            clear hy1
            cases hc : ((z.take k).map (·.1)).contains x
            · rw [hc] at l1
              obtain ⟨w3, r3, n3, g3, z3⟩ := m1.store (t := 87) (e := 32) (x := x) Try.underlying87 (by unfold maxLen; omega) X1.out u
              have M1 := Lib.hid m1
              have N3 := Lib.hid n3
              have G3 := Lib.hid g3
              have Z3 := Lib.hid z3
              have HC0 := Lib.hid hc
              clear m1 m2 m3 n3 g3 z3 hc
              go_wp2
              go_roundw
              case rel =>
                refine ⟨k + 1, by omega, by go_num, ?_, ⟨_, N3.out, fun s => ?_, fun m hm => ?_⟩, ?_⟩
                · rw [Q1.out, D1.out, T1.out, formR, if_neg (by rw [HG.out]; decide), if_neg (by rw [HT2.out]; simp), HC0.out, List.map_append]
                  rfl
                · rw [T1.out]
                  by_cases hs : s = x
                  · subst hs; simp [upd]
                  · have := M2.out s
                    simp [upd, hs] at this ⊢
                    exact this
                · rw [T1.out] at hm
                  rcases List.mem_append.1 hm with hm | hm
                  · obtain ⟨v', e1, e2, e3⟩ := M3.out m hm
                    refine ⟨v', ?_, e2.mapped M1.out G3.out, e3⟩
                    have hne : m.1 ≠ x := by
                      intro e
                      have h1 := HC0.out
                      rw [← e] at h1
                      have h2 : ((z.take k).map (·.1)).contains m.1 = true := by
                        rw [List.contains_iff_mem]; exact List.mem_map_of_mem hm
                      rw [h1] at h2; cases h2
                    simp [upd, hne, e1]
                  · rw [List.mem_singleton.1 hm]
                    refine ⟨u, by simp [upd], ?_, ?_⟩
                    · show SIn w3 u (usesR y)
                      rw [YT.out]
                      exact IN2.out.mapped M1.out G3.out
                    · show ∀ x ∈ usesR y, _
                      rw [YT.out]; exact GD.out
                · exact (Q3.out.trans (B2.out.mono Q3.out.size)).grown G3.out (Nat.le_trans Q3.out.size B2.out.size) (fun j hj => by injection hj with hj; omega)
              case measure => simp [intOf]; omega
            · rw [hc] at l1
              have F6 : Hid (formR [] z = 6) := by show _ = _; rw [Q1.out, D1.out, formR, if_neg (by rw [HG.out]; decide), if_neg (by rw [HT2.out]; simp), if_pos hc]
              clear m1 m2 m3 hc
              go_wp2
              go_ret2
              exact ⟨Q3.out.trans (B2.out.mono Q3.out.size), .inr ⟨by rw [F6.out]; decide, by rw [F6.out]; rfl⟩⟩
          · have B2 : Hid (Below wr.heap.size wr w2) := (BA.out _).trans (hb.mono (BA.out _).size)
            have F3 : Hid (formR [] z = 3) := by show _ = _; rw [Q1.out, D1.out, formR, if_neg (by rw [HG.out]; decide), if_pos ht]
            clear hb ht ST BA
            go_wp2
            go_ret2
            exact ⟨Q3.out.trans (B2.out.mono Q3.out.size), .inr ⟨by rw [F3.out]; decide, by rw [F3.out]; rfl⟩⟩
      · obtain rfl : k = z.length := by omega
        have F0 : Hid (formR [] z = 0) := by show _ = _; rw [Q1.out, List.drop_length]; rfl
        go_wp2
        go_ret2
        have u := Q2.out
        rw [List.take_length] at u
        exact ⟨Q3.out, .inl ⟨F0.out, rfl, u⟩⟩
end Go.Proofs.Ytoinflfibofofaa
