/-
  Maps with string keys: block b is a map that holds f, whatever the elements are. No condition.
-/
import Derived.Test.YtpjcdfphllbonaaDoorMPl
import Derived.Maps.OwnSet
namespace Go.Proofs.YtpjcdfphllbonaaDoor
set_option maxRecDepth 100000
set_option linter.unusedVariables false
open Go.ChangeShapes Go.WideShapes Go.ChangeAt Go.RowKit Go.Maps

/-- a string as the model lays it -/
def bs (x : Str) : ByteArray := ⟨x.toArray⟩
theorem keyLaw : Keyed Tryd.prog 9 := string_keyed Tryd.underlying9
def anyV (v : Value) : Option (DataW Value × List MemPlace) := some (.held v, [])
/-- block b is a map of at most n entries that holds f -/
def MI (b n : Nat) (f : Str → Option Value) (w : World) : Prop := ∃ D : DataW Value, w.ownsMap Tryd.prog 9 anyV b n D ∧ ∀ s : Str, Maps.has D (.string s) = (f s).isSome ∧ ∀ z : Value, D.atKey (.string s) (.held z) = .held ((f s).getD z)

def upd (f : Str → Option Value) (s : Str) (v : Value) : Str → Option Value := fun x => if x = s then some v else f x

theorem MI.made (w : World) : MI w.heap.size 0 (fun _ => none) (w.alloc (.map #[] 0)) :=
  ⟨.map [], World.ownsMap_made w _ _ _, fun s => ⟨rfl, fun z => rfl⟩⟩
theorem MI.lt {b n : Nat} {f : Str → Option Value} {w : World} (h : MI b n f w) : b < w.heap.size := by obtain ⟨D, h, _⟩ := h; exact h.lt
theorem MI.grown {b n : Nat} {f : Str → Option Value} {w w' : World} {row : Option Nat} (h : MI b n f w) (hg : w.grownBy w' row) (hne : some b ≠ row) : MI b n f w' := by
  obtain ⟨D, h, k⟩ := h; exact ⟨D, h.kept hg hne, k⟩
theorem MI.alloc {b n : Nat} {f : Str → Option Value} {w : World} (h : MI b n f w) (o : Obj) : MI b n f (w.alloc o) := by
  obtain ⟨D, h, k⟩ := h; exact ⟨D, h.alloc o, k⟩
theorem MI.later {b n : Nat} {f : Str → Option Value} {w w' : World} (h : MI b n f w) (hb : Below w.heap.size w w') : MI b n f w' := by
  have hlt := h.lt
  obtain ⟨D, ⟨es, clock, hb', r⟩, k⟩ := h
  exact ⟨D, ⟨es, clock, (hb.block b hlt).trans hb', r⟩, k⟩
theorem MI.setCell {b n : Nat} {f : Str → Option Value} {w : World} (h : MI b n f w) {a : Addr} (ha : b ≠ a.block) (u : Value) : MI b n f (w.setCell a u) := by
  obtain ⟨D, h, k⟩ := h; exact ⟨D, h.setCell ha u, k⟩

theorem MI.mono {b n m : Nat} {f : Str → Option Value} {w : World} (h : MI b n f w) (hn : n ≤ m) : MI b m f w := by
  obtain ⟨D, h, k⟩ := h; exact ⟨D, h.mono hn, k⟩
theorem MI.congr {b n : Nat} {f g : Str → Option Value} {w : World} (h : MI b n f w) (e : ∀ s, f s = g s) : MI b n g w := by
  obtain ⟨D, h, k⟩ := h; exact ⟨D, h, fun s => by rw [← e s]; exact k s⟩
theorem key_bs {x : Str} (hx : x.length ≤ maxLen) : keyOf Tryd.prog 9 (.string (bs x)) = some (.string x) := by
  have := WideMaps.keyOf_string_mk (P := Tryd.prog) (s := bs x) Tryd.underlying9 (by show x.toArray.size ≤ _; simpa using hx)
  simpa [bs] using this

theorem MI.look {b n : Nat} {f : Str → Option Value} {w : World} {t e : TypeId} {z : Value} (h : MI b n f w) (ht : Tryd.prog.underlying t = some (.map 9 e)) (hz : (zeroValue e).run Tryd.prog w = .ok z w) {x : Str} (hx : x.length ≤ maxLen) :
    (Instr.lookup t (.map (some b)) (.string (bs x)) false).run Tryd.prog w = .ok ((f x).getD z) w := by
  obtain ⟨D, h, k⟩ := h
  obtain ⟨v, ps, hr, hv⟩ := h.lookup keyLaw ht hz (zd := .held z) (zp := []) rfl (key_bs hx)
  rw [(k x).2 z] at hv
  unfold anyV at hv
  simp only [Option.some.injEq, Prod.mk.injEq, DataW.held.injEq] at hv
  rw [hr, hv.1]
theorem MI.look_ok {b n : Nat} {f : Str → Option Value} {w : World} {t e : TypeId} {z : Value} (h : MI b n f w) (ht : Tryd.prog.underlying t = some (.map 9 e)) (hz : (zeroValue e).run Tryd.prog w = .ok z w) {x : Str} (hx : x.length ≤ maxLen) :
    (Instr.lookup t (.map (some b)) (.string (bs x)) true).run Tryd.prog w = .ok (.tuple #[(f x).getD z, .bool (f x).isSome]) w := by
  obtain ⟨D, h, k⟩ := h
  obtain ⟨v, ps, hr, hv⟩ := h.look_ok keyLaw ht hz (zd := .held z) (zp := []) rfl (key_bs hx)
  rw [(k x).2 z] at hv
  unfold anyV at hv
  simp only [Option.some.injEq, Prod.mk.injEq, DataW.held.injEq] at hv
  rw [hr, hv.1, (k x).1]
theorem MI.store {b n : Nat} {f : Str → Option Value} {w : World} {t e : TypeId} (h : MI b n f w) (ht : Tryd.prog.underlying t = some (.map 9 e)) (hn : n < maxLen) {x : Str} (hx : x.length ≤ maxLen) (v : Value) :
    ∃ w', (Instr.mapUpdate t (.map (some b)) (.string (bs x)) v).run Tryd.prog w = .ok () w' ∧ MI b (n + 1) (upd f x v) w' ∧ w.grownBy w' (some b) ∧ w'.heap.size = w.heap.size := by
  obtain ⟨D, h, k⟩ := h
  obtain ⟨w', hr, ho, hg⟩ := h.store keyLaw ht hn (key_bs hx) (val := v) (d := .held v) (ps := []) rfl
  refine ⟨w', hr, ⟨_, ho, fun s => ?_⟩, hg.grown, ?_⟩
  · by_cases hs : s = x
    · subst hs
      refine ⟨?_, fun z => ?_⟩
      · rw [has_put_same h.isMap (show WideAt.IsKeyLit (.string s) from trivial)]; simp [upd]
      · rw [atKey_put_same h.isMap (show WideAt.IsKeyLit (.string s) from trivial)]; simp [upd]
    · have hne : Lit.string s ≠ Lit.string x := fun e => hs (by injection e)
      refine ⟨?_, fun z => ?_⟩
      · rw [has_put_other hne, (k s).1]; simp [upd, hs]
      · rw [atKey_put_other hne, (k s).2]; simp [upd, hs]
  · obtain ⟨es, clock, es', clock', hb, rfl⟩ := hg
    simp [Go.ChangeMaps.setBlock]
end Go.Proofs.YtpjcdfphllbonaaDoor
