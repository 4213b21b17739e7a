/-
  Slices of strings and of macros: what they hold. Condition: a slice takes at most 2^47 bytes (the form says so).
-/
import Derived.Test.YtpjcdfphllbonaaDoorMMap
import Derived.WalkKit
import Derived.ProofKit
import Derived.OpenShut
import Derived.Handy
import Derived.BigQuiet
import Derived.Deep.QuietTactic
import Derived.Lib.Hide
import Derived.WalkLawsBesides
import Derived.Laws.Externs
import Derived.SizedLaws
import Derived.SliceStrings
import Derived.Deep.Slices
import Derived.OwnWalk
import Derived.Deep.AppendLies
import Derived.Laws.OwnMore
import Derived.Shelf.Abstract
import Derived.WalkSpells
import Derived.Lib.OwnBridge
import Derived.Sort.Walk0
import Derived.Sort.EncStr
namespace Go.Proofs.YtpjcdfphllbonaaDoor
set_option maxRecDepth 100000
set_option linter.unusedVariables false
open Go.ChangeShapes Go.WideShapes Go.ChangeAt Go.RowKit

theorem ret_s {a b : Str} (h : a = b) : Ending.returned (.string ⟨a.toArray⟩) = .returned (.string ⟨b.toArray⟩) := by rw [h]
theorem bs_list (x : Str) : (bs x).data.toList = x := rfl
theorem bs_toList (x : Str) : (bs x).toList = x := by rw [Lib.toList_data]; rfl
theorem bs_of (s : ByteArray) : bs s.data.toList = s := by unfold bs; simp
theorem bs_some {x : Str} (h : x ≠ []) : (bs x).toList.isEmpty = false := by rw [bs_toList]; cases x with
  | nil => exact absurd rfl h
  | cons _ _ => rfl
theorem bs_none : (bs []).toList.isEmpty = true := by rw [bs_toList]; rfl
theorem bs_size (x : Str) : (bs x).size = x.length := by rw [← size_list]; rfl
theorem encStr_bs (x : Str) : encStr x = .string (bs x) := rfl

/-- a slice that holds the strings z -/
def SIn (w : World) (v : Value) (z : List Str) : Prop :=
  ∃ a cap, v = .slice a z.length cap ∧ z.length ≤ cap ∧ z.length ≤ 17592186044416 ∧ (∀ x ∈ z, x.length ≤ 9223372036854775807) ∧
    (z = [] ∨ ∃ b off, a = some ⟨b, off, none⟩ ∧ b < w.heap.size ∧ ∀ k, k < z.length → w.cell? ⟨b, off + k, none⟩ = some (.string (bs (z.getD k []))))

theorem SIn.later {w w' : World} {v : Value} {z : List Str} (h : SIn w v z) (hb : Below w.heap.size w w') : SIn w' v z := by
  obtain ⟨a, cap, h1, h2, h3, h4, h5⟩ := h
  refine ⟨a, cap, h1, h2, h3, h4, ?_⟩
  rcases h5 with h5 | ⟨b, off, h5, h6, h7⟩
  · exact .inl h5
  · exact .inr ⟨b, off, h5, Nat.lt_of_lt_of_le h6 hb.size, fun k hk => cell_later hb (h7 k hk)⟩
theorem SIn.own {w : World} {base : Nat} {v : Value} {z : List Str} (h : w.ownsRow base 9 1 v z.length (z.map encStr)) (hn : z.length ≤ 17592186044416) (hx : ∀ x ∈ z, x.length ≤ 9223372036854775807) : SIn w v z := by
  by_cases h0 : z = []
  · subst h0
    rcases h.2 with ⟨hv, _⟩ | ⟨g, cap, _, hv, _⟩
    · exact ⟨none, 0, hv, Nat.le_refl _, by simp, hx, .inl rfl⟩
    · exact ⟨_, cap, hv, Nat.zero_le _, by simp, hx, .inl rfl⟩
  · have hl : z.length ≠ 0 := fun e => h0 (List.length_eq_zero_iff.1 e)
    have hv : v ≠ .slice none 0 0 := by
      rintro rfl
      rcases h.2 with ⟨_, k⟩ | ⟨g, cap, _, k, _⟩
      · exact hl k
      · cases k
    obtain ⟨g, cap, rfl, hb, hlt, hc, _, _, hH⟩ := Lib.holds_of_ownsRow h hv
    refine ⟨_, cap, rfl, hc, hn, hx, .inr ⟨g, 0, rfl, hlt, fun k hk => ?_⟩⟩
    have := (hH k (by simpa using hk)).1
    rw [this, getElem!_pos _ k (by simpa using hk)]
    simp [encStr_bs, List.getD, List.getElem?_eq_getElem hk]
theorem SIn.bound {w : World} {v : Value} {z : List Str} (h : SIn w v z) : z.length ≤ 17592186044416 := by obtain ⟨_, _, _, _, h3, _⟩ := h; exact h3
theorem SIn.small {w : World} {v : Value} {z : List Str} (h : SIn w v z) : ∀ x ∈ z, x.length ≤ 9223372036854775807 := by obtain ⟨_, _, _, _, _, h4, _⟩ := h; exact h4
/-- opened: no element, or a row -/
theorem SIn.open {w : World} {v : Value} {z : List Str} (h : SIn w v z) : (z = [] ∧ ∃ a cap, v = .slice a 0 cap) ∨
    (0 < z.length ∧ ∃ b off cap, v = .slice (some ⟨b, off, none⟩) z.length cap ∧ z.length ≤ cap ∧ b < w.heap.size ∧ ∀ k, k < z.length → w.cell? ⟨b, off + k, none⟩ = some (.string (bs (z.getD k [])))) := by
  obtain ⟨a, cap, rfl, h2, _, _, h5⟩ := h
  by_cases h0 : z = []
  · subst h0; exact .inl ⟨rfl, a, cap, rfl⟩
  · rcases h5 with h5 | ⟨b, off, rfl, h6, h7⟩
    · exact absurd h5 h0
    · exact .inr ⟨List.length_pos_iff.2 h0, b, off, cap, rfl, h2, h6, h7⟩

theorem open_strs2 {H : Type} {enc : TypeId × Value → H} {P : Program} {W : World} {t e : TypeId} {v : Value} {d : DataW H} {ps : List MemPlace} {base : Nat} {ts : List TypeId} {ds : List (DataW H)} {j : Nat}
    (ht : P.underlying t = some (.slice e)) (he : P.underlying e = some .string) (hc : P.cellsOf e = 1) (hb : P.bytesOf e = 16)
    (hsz : (DataW.weightsEach P ts ds).all (· ≤ reachBytes) = true) (htj : ts[j]? = some t) (hdj : ds[j]? = some d)
    (hval : Value.okWide P W .any base t v) (h : DataW.Trod enc P W 0 (fun _ => true) true t v d ps) :
    ∃ z, SIn W v z ∧ z.length ≤ 8796093022208 := by
  obtain ⟨a0, len0, cap0, rfl⟩ := okWide_slice ht hval
  obtain ⟨fuel, hf⟩ := h
  rcases open_strings ht he hc hf with ⟨hcs, _⟩ | ⟨a, len, cap, ss, hcs, _, hl, hm, hss, hx, hcell, hmax⟩
  · simp [Value.cells] at hcs
    obtain ⟨rfl, rfl, rfl⟩ := hcs
    exact ⟨[], ⟨none, 0, rfl, Nat.le_refl _, by simp, fun x hx => absurd hx List.not_mem_nil, .inl rfl⟩, by simp⟩
  · simp [Value.cells] at hcs
    obtain ⟨rfl, rfl, rfl⟩ := hcs
    simp only [if_true] at hss
    simp only [Prod.mk.injEq] at hx
    have hs := sized_slice hsz htj (hx.1 ▸ hdj) ht
    rw [hb] at hs
    simp only [strs, List.length_map, List.length_take, List.length_drop, reachBytes] at hs
    have hlen : ((ss.take len0).map fun s => s.data.toList).length = len0 := by rw [List.length_map, List.length_take]; omega
    refine ⟨(ss.take len0).map fun s => s.data.toList, ⟨some a, cap0, by rw [hlen], by omega, by omega, ?_, ?_⟩, by omega⟩
    · intro x hx'
      obtain ⟨s, hs', rfl⟩ := List.mem_map.1 hx'
      rw [size_list]
      exact hmax s (List.mem_of_mem_take hs')
    · by_cases h0 : len0 = 0
      · left; subst h0; simp
      · right
        obtain ⟨b, off, spot⟩ := a
        have hspot : spot = none := by simpa [Addr.add] using World.cell?_spot (hcell 0 (by omega))
        subst hspot
        have hc' : ∀ k, k < len0 → W.cell? ⟨b, off + k, none⟩ = some (.string (ss.getD k ByteArray.empty)) := fun k hk => by
          rw [← hcell k (by omega)]
          congr 1
          unfold Addr.add
          by_cases e : k = 0 <;> simp [e]
        refine ⟨b, off, rfl, World.block_lt_of_cell? _ _ (hc' 0 (by omega)), fun k hk => ?_⟩
        rw [hlen] at hk
        rw [hc' k hk]
        have e1 : k < (ss.take len0).length := by rw [List.length_take]; omega
        have e2 : k < ss.length := by omega
        rw [List.getD, List.getD, List.getElem?_map, List.getElem?_eq_getElem e1, List.getElem?_eq_getElem e2]
        simp [bs_of]

theorem open_strs {H : Type} {enc : TypeId × Value → H} {P : Program} {W : World} {t e : TypeId} {v : Value} {d : DataW H} {ps : List MemPlace} {base : Nat} {ts : List TypeId} {ds : List (DataW H)} {j : Nat}
    (ht : P.underlying t = some (.slice e)) (he : P.underlying e = some .string) (hc : P.cellsOf e = 1) (hb : P.bytesOf e = 16)
    (hsz : (DataW.weightsEach P ts ds).all (· ≤ reachBytes) = true) (htj : ts[j]? = some t) (hdj : ds[j]? = some d)
    (hval : Value.okWide P W .any base t v) (h : DataW.Trod enc P W 0 (fun _ => true) true t v d ps) : ∃ z, SIn W v z := by
  obtain ⟨z, hz, _⟩ := open_strs2 ht he hc hb hsz htj hdj hval h
  exact ⟨z, hz⟩

theorem infoStr : (Tryd.prog.info? 9).map (fun i => (i.zero, i.size, i.bytes)) = some (some (.string ByteArray.empty), 1, 16) := by kernel_rfl

/-- the cells of a macro -/
def encMc (x : Mc) : List Value := [.string (bs x.1), .string (bs x.2)]
def mcCells (z : List Mc) : List Value := z.flatMap encMc
theorem mcCells_length (z : List Mc) : (mcCells z).length = z.length * 2 := by
  induction z with
  | nil => rfl
  | cons x r ih => simp [mcCells, encMc] at ih ⊢; omega
theorem mcCells_snoc (z : List Mc) (x : Mc) : mcCells (z ++ [x]) = mcCells z ++ [.string (bs x.1), .string (bs x.2)] := by simp [mcCells, encMc]
theorem mcCells_append (y z : List Mc) : mcCells (y ++ z) = mcCells y ++ mcCells z := by simp [mcCells]
theorem mcCells_at : ∀ (z : List Mc) (k : Nat) (x : Mc), z[k]? = some x → (mcCells z)[k * 2]? = some (.string (bs x.1)) ∧ (mcCells z)[k * 2 + 1]? = some (.string (bs x.2))
  | [], k, x, h => by simp at h
  | y :: t, 0, x, h => by
    simp at h
    subst h
    simp [mcCells, encMc]
  | y :: t, k + 1, x, h => by
    have ih := mcCells_at t k x (by simpa using h)
    have e : mcCells (y :: t) = .string (bs y.1) :: .string (bs y.2) :: mcCells t := by simp [mcCells, encMc]
    rw [e, show (k + 1) * 2 = k * 2 + 1 + 1 by omega, show k * 2 + 1 + 1 + 1 = (k * 2 + 1) + 1 + 1 by omega]
    simpa using ih

/-- a slice that holds the macros z -/
def McIn (w : World) (v : Value) (z : List Mc) : Prop :=
  ∃ a cap, v = .slice a z.length cap ∧ z.length ≤ cap ∧ cap ≤ maxLen ∧ z.length ≤ 8796093022208 ∧
    (z = [] ∨ ∃ b off, a = some ⟨b, off, none⟩ ∧ b < w.heap.size ∧ ∀ k x, z[k]? = some x → w.cell? ⟨b, off + k * 2, none⟩ = some (.string (bs x.1)) ∧ w.cell? ⟨b, off + k * 2 + 1, none⟩ = some (.string (bs x.2)))
theorem McIn.later {w w' : World} {v : Value} {z : List Mc} (h : McIn w v z) (hb : Below w.heap.size w w') : McIn w' v z := by
  obtain ⟨a, cap, h1, h2, h3, h4, h5⟩ := h
  refine ⟨a, cap, h1, h2, h3, h4, ?_⟩
  rcases h5 with h5 | ⟨b, off, h5, h6, h7⟩
  · exact .inl h5
  · exact .inr ⟨b, off, h5, Nat.lt_of_lt_of_le h6 hb.size, fun k x hk => ⟨cell_later hb (h7 k x hk).1, cell_later hb (h7 k x hk).2⟩⟩
theorem add_off (g j : Nat) : (⟨g, 0, none⟩ : Addr).add j = ⟨g, j, none⟩ := by
  unfold Addr.add
  by_cases e : j = 0 <;> simp [e]
theorem McIn.open {w : World} {v : Value} {z : List Mc} (h : McIn w v z) : (z = [] ∧ ∃ a cap, v = .slice a 0 cap) ∨
    (0 < z.length ∧ ∃ b off cap, v = .slice (some ⟨b, off, none⟩) z.length cap ∧ z.length ≤ cap ∧ b < w.heap.size ∧ ∀ k x, z[k]? = some x → w.cell? ⟨b, off + k * 2, none⟩ = some (.string (bs x.1)) ∧ w.cell? ⟨b, off + k * 2 + 1, none⟩ = some (.string (bs x.2))) := by
  obtain ⟨a, cap, rfl, h2, _, _, h5⟩ := h
  by_cases h0 : z = []
  · subst h0; exact .inl ⟨rfl, a, cap, rfl⟩
  · rcases h5 with h5 | ⟨b, off, rfl, h6, h7⟩
    · exact absurd h5 h0
    · exact .inr ⟨List.length_pos_iff.2 h0, b, off, cap, rfl, h2, h6, h7⟩
/-- a row of strings of the call's own -/
def SO (B : Nat) (v : Value) (z : List Str) (w : World) : Prop := w.ownsRow B 9 1 v z.length (z.map encStr)
theorem SO.snoc {B : Nat} {v : Value} {z : List Str} {x : Str} {w : World} (h : w.ownsRow B 9 1 v (z.length + 1) (z.map encStr ++ [.string (bs x)])) : SO B v (z ++ [x]) w := by
  unfold SO; rw [List.length_append, List.map_append]; exact h
theorem cell_one' (w : World) (x : Value) (t : TypeId) : ∀ j u, [x][j]? = some u → (w.alloc (.cells #[x] t)).cell? ((⟨w.heap.size, 0, none⟩ : Addr).add j) = some u := by
  intro j u hj
  match j, hj with
  | 0, hj => simp at hj; subst hj; simp [Addr.add]
  | (j + 1), hj => simp at hj
end Go.Proofs.YtpjcdfphllbonaaDoor
