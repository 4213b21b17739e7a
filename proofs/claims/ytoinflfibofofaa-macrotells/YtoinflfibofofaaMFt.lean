/-
  The reference's MacroFault. Condition: the macros' values have at most 2^32 bytes.
-/
import Derived.Test.YtoinflfibofofaaMOd
namespace Go.Proofs.Ytoinflfibofofaa
set_option linter.unusedVariables false
open Go.ChangeShapes Go.WideShapes Go.ChangeAt Go.RowKit

def placeF : List Str → Str → Option Nat
  | [], _ => none
  | y :: r, x => if y = x then some 0 else (placeF r x).map (· + 1)
def placeIx (z : List Str) (x : Str) : Int := match placeF z x with
  | some i => (i : Int)
  | none => -1
theorem placeF_none : ∀ {z : List Str} {x : Str}, x ∉ z → placeF z x = none
  | [], _, _ => rfl
  | y :: r, x, h => by
    rw [placeF, if_neg (fun e => h (by rw [e]; exact List.mem_cons_self)), placeF_none (fun e => h (List.mem_cons_of_mem _ e))]; rfl
theorem placeF_some : ∀ {z : List Str} {x : Str}, x ∈ z → ∃ i : Nat, placeF z x = some i ∧ i < z.length ∧ z.getD i [] = x
  | [], _, h => by cases h
  | y :: r, x, h => by
    by_cases e : y = x
    · exact ⟨0, by rw [placeF, if_pos e], by simp, by simpa using e⟩
    · have h' : x ∈ r := by
        rcases List.mem_cons.1 h with h | h
        · exact absurd h.symm e
        · exact h
      obtain ⟨i, h1, h2, h3⟩ := placeF_some h'
      exact ⟨i + 1, by rw [placeF, if_neg e, h1]; rfl, by simpa using h2, by simpa using h3⟩
theorem placeF_at : ∀ {z : List Str} {x : Str} {k : Nat}, k < z.length → z.getD k [] = x → (∀ j, j < k → z.getD j [] ≠ x) → placeF z x = some k
  | [], _, k, h, _, _ => by simp at h
  | y :: r, x, 0, _, h, _ => by rw [placeF, if_pos (by simpa using h)]
  | y :: r, x, k + 1, hk, h, ha => by
    rw [placeF, if_neg (by simpa using ha 0 (by omega)), placeF_at (k := k) (by simpa using hk) (by simpa using h) (fun j hj => by simpa using ha (j + 1) (by omega))]; rfl
theorem placeIx_none {z : List Str} {x : Str} (h : x ∉ z) : placeIx z x = -1 := by unfold placeIx; rw [placeF_none h]
theorem placeIx_some {z : List Str} {x : Str} (h : x ∈ z) : ∃ i : Nat, placeIx z x = i ∧ i < z.length ∧ z.getD i [] = x := by
  obtain ⟨i, h1, h2⟩ := placeF_some h
  exact ⟨i, by unfold placeIx; rw [h1], h2⟩
theorem placeIx_at {z : List Str} {x : Str} {k : Nat} (h1 : k < z.length) (h2 : z.getD k [] = x) (h3 : ∀ j, j < k → z.getD j [] ≠ x) : placeIx z x = k := by unfold placeIx; rw [placeF_at h1 h2 h3]
set_option maxHeartbeats 1000000 in
theorem place_ix {w : World} {v : Value} {z : List Str} (h : SIn w v z) (x : Str) :
    Calls Try.prog 31 #[v, .string (bs x)] w fun e w' => e = .returned (.int .i64 (placeIx z x)) ∧ w' = w := by
  have hn := h.bound
  rcases h.open with ⟨hz, a, cap, rfl⟩ | ⟨hpos, b, off, cap, rfl, hcap, hlt, hc⟩
  · clear h hn
    subst hz
    go_enter Try.func31, Try.ntmps31
    go_wp2_with fail
    go_rounds 1
    go_ret
    exact ⟨ret_i (by rw [placeIx_none List.not_mem_nil]), rfl⟩
  · clear h
    have HC := Lib.hid hc; clear hc
    generalize hL : z.length = L at *
    have HL := Lib.hid hL; clear hL
    go_enter Try.func31, Try.ntmps31
    go_wp2_with fail
    go_loopw [9] (fun i wr => ∃ k : Nat, k ≤ L ∧ i = .int .i64 (k : Int) ∧ (∀ j, j < k → z.getD j [] ≠ x) ∧ wr = w) (fun i _ => L - (intOf i).toNat)
    case atStart => exact ⟨0, by omega, rfl, fun _ h => absurd h (Nat.not_lt_zero _), rfl⟩
    case round =>
      obtain ⟨k, hk, rfl, hall, rfl⟩ := hrel
      have HA := Lib.hid hall; clear hall
      by_cases hk2 : k < L
      · have c1 := HC.out k hk2
        by_cases hx : z.getD k [] = x
        · have HX := Lib.hid hx
          rw [hx] at c1
          clear hx
          go_wp2
          go_ret
          exact ⟨ret_i (by rw [placeIx_at (by rw [HL.out]; exact hk2) HX.out HA.out]), rfl⟩
        · have HX := Lib.hid hx
          have t : ((bs (z.getD k [])).toList == (bs x).toList) = false := by rw [bs_toList, bs_toList]; simpa using hx
          clear hx
          generalize bs (z.getD k []) = y at c1 t
          go_wp2
          go_roundw
          case rel =>
            refine ⟨k + 1, by omega, by go_num, fun j hj => ?_, trivial⟩
            rcases Nat.lt_succ_iff_lt_or_eq.1 hj with h | h
            · exact HA.out j h
            · rw [h]; exact HX.out
          case measure => simp [intOf]; omega
      · obtain rfl : k = L := by omega
        go_wp2
        go_ret
        have hx : x ∉ z := fun hx => by
          obtain ⟨i, hi, e⟩ := mem_getD hx
          exact HA.out i (by rw [← HL.out]; exact hi) e
        exact ⟨ret_i (by rw [placeIx_none hx]), rfl⟩

/-- the first part of a slice of strings -/
theorem SIn.part {w : World} {a : Option Addr} {n cap : Nat} {U : List Str} (h : SIn w (.slice a n cap) U) {k : Nat} (hk : k ≤ U.length) : SIn w (.slice a k cap) (U.take k) := by
  obtain ⟨a', cap', e, h2, h3, h4, h5⟩ := h
  cases e
  have hl : (U.take k).length = k := by rw [List.length_take]; omega
  refine ⟨a, cap, by rw [hl], by rw [hl]; omega, by rw [hl]; omega, fun x hx => h4 x (List.mem_of_mem_take hx), ?_⟩
  by_cases h0 : U.take k = []
  · exact .inl h0
  · rcases h5 with rfl | ⟨b, off, e1, e2, e3⟩
    · exact absurd (by simp) h0
    · refine .inr ⟨b, off, e1, e2, fun j hj => ?_⟩
      rw [hl] at hj
      rw [e3 j (by omega), List.getD, List.getD, List.getElem?_take_of_lt hj]
/-- a row of words of the call's own -/
def encU (x : Bv) : Value := .int .u64 (x.toNat : Int)
def RO (B g : Nat) (L : List Bv) (w : World) : Prop := w.ownsRow B 66 1 (.slice (some ⟨g, 0, none⟩) L.length L.length) L.length (L.map encU)
theorem RO.later {B g : Nat} {L : List Bv} {w w' : World} (h : RO B g L w) (hb : Below w.heap.size w w') : RO B g L w' := by
  refine World.ownsRow.kept (row := none) h ⟨hb.os, hb.tape, hb.output, hb.size, fun k hk _ => hb.block k hk⟩ ?_
  exact .inr (by simp [Value.ownBlock])
theorem RO.cell {B g : Nat} {L : List Bv} {w : World} (h : RO B g L w) {k : Nat} (hk : k < L.length) : w.cell? ⟨g, k, none⟩ = some (.int .u64 ((L.getD k 0#64).toNat : Int)) ∧ w.frozen? ⟨g, k, none⟩ = false := by
  have hc := World.ownsRow.cells h (g := g) rfl k (encU (L.getD k 0#64)) (by rw [List.getElem?_map, List.getD, List.getElem?_eq_getElem hk]; rfl)
  rw [add_off] at hc
  exact ⟨hc, World.ownsRow.frozenAt h k⟩
theorem RO.put {B g : Nat} {L : List Bv} {w : World} (h : RO B g L w) {k : Nat} (hk : k < L.length) (x : Bv) : RO B g (L.set k x) (w.setCell ⟨g, k, none⟩ (.int .u64 (x.toNat : Int))) := by
  have := (World.ownsRow.stored h k (encU x)).1
  unfold RO
  rw [List.length_set, List.map_set]
  exact this
theorem RO.alloc {B g : Nat} {L : List Bv} {w : World} (h : RO B g L w) (o : Obj) : RO B g L (w.alloc o) := World.ownsRow.alloc h o
theorem RO.drew {B g : Nat} {L : List Bv} {w : World} (h : RO B g L w) : RO B g L w.drew := h
theorem zeros_u (n : Nat) : (madeCells (Value.int .u64 0).cells (n * 1)).toList = (List.replicate n (0#64 : Bv)).map encU := by
  have h : (Value.int .u64 0).cells = #[.int .u64 0] := rfl
  rw [h, Nat.mul_one, toList_madeCells_one, List.map_replicate]; rfl
/-- which fault macros have -/
def FtRes (z : List Mc) (E : Int) : Prop :=
  (40 < z.length ∧ E = 2) ∨ (z.length ≤ 40 ∧ ((formR [] z ≠ 0 ∧ E = formR [] z) ∨ (formR [] z = 0 ∧ (((∃ m ∈ z, ∃ x ∈ usesR m.2, x ∉ names z) ∧ E = 5) ∨ (Refs z ∧ ((Stuck z ∧ E = 8) ∨ ((∃ o, Ord o ∧ ∀ m, m ∈ o ↔ m ∈ z) ∧ E = 0)))))))
theorem ord_free {z o : List Mc} (ho : Ord o) (hm : ∀ m, m ∈ o ↔ m ∈ z) : ¬ Stuck z := by
  rintro ⟨P, ⟨m0, hm0, hp0⟩, hP⟩
  have key : ∀ (n i : Nat) (m : Mc), i < n → o[i]? = some m → m.1 ∈ P := by
    intro n
    induction n with
    | zero => intro i m hi; omega
    | succ n ih =>
      intro i m hi e
      cases Classical.em (m.1 ∈ P) with
      | inl h => exact h
      | inr h =>
        obtain ⟨x, hx, hxp⟩ := hP m ((hm m).1 (List.mem_of_getElem? e)) h
        have hxn := ho i m e x hx
        obtain ⟨y, hy, rfl⟩ := List.mem_map.1 hxn
        obtain ⟨j, hj⟩ := List.mem_iff_getElem?.1 hy
        have hji : j < i := by
          rcases Nat.lt_or_ge j i with h | h
          · exact h
          · rw [List.getElem?_eq_none (by rw [List.length_take]; omega)] at hj; cases hj
        rw [List.getElem?_take_of_lt hji] at hj
        exact absurd (ih j y (by omega) hj) hxp
  obtain ⟨i, hi⟩ := List.mem_iff_getElem?.1 ((hm m0).2 hm0)
  exact hp0 (key (i + 1) i m0 (by omega) hi)
theorem FtRes.one {z : List Mc} {E F : Int} (h1 : FtRes z E) (h2 : FtRes z F) : E = F := by
  rcases h1 with ⟨a, rfl⟩ | ⟨a, h1⟩ <;> rcases h2 with ⟨b, rfl⟩ | ⟨b, h2⟩
  · rfl
  · omega
  · omega
  · rcases h1 with ⟨c, rfl⟩ | ⟨c, h1⟩ <;> rcases h2 with ⟨d, rfl⟩ | ⟨d, h2⟩
    · rfl
    · exact absurd d c
    · exact absurd c d
    · rcases h1 with ⟨⟨m, hm, x, hx, hn⟩, rfl⟩ | ⟨e, h1⟩ <;> rcases h2 with ⟨⟨m', hm', x', hx', hn'⟩, rfl⟩ | ⟨f, h2⟩
      · rfl
      · exact absurd (f m hm x hx) hn
      · exact absurd (e m' hm' x' hx') hn'
      · rcases h1 with ⟨g, rfl⟩ | ⟨⟨o, ho, hm⟩, rfl⟩ <;> rcases h2 with ⟨k, rfl⟩ | ⟨⟨o', ho', hm'⟩, rfl⟩
        · rfl
        · exact absurd g (ord_free ho' hm')
        · exact absurd k (ord_free ho hm)
        · rfl
theorem ordered_none (a : Option Addr) (c : Nat) (w : World) : Calls Try.prog 36 #[.slice a 0 c] w fun e w' => e = .returned (.slice none 0 0) ∧ w' = w := by
  go_enter Try.func36, Try.ntmps36
  go_wp2_with fail
  go_rounds 1
  go_ret
  exact ⟨rfl, rfl⟩
end Go.Proofs.Ytoinflfibofofaa
