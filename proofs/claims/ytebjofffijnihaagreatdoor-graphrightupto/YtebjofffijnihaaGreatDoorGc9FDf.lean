/-
  A function that defers calls of builtins ('defer delete(m, k)'): behind its body they are made, the last one laid first. No condition.
  Package file's reader: include, process, read. Condition: the strings' lengths are ints.
  What package file's Lines answers. Condition: the texts' strings have lengths that are ints.
  The shelf's contracts laid at this program, in plain words: that the library's functions stand in it as the shelf has them. No condition.
  Slices of strings: what they hold, how they are opened. Condition: a slice takes at most 2^47 bytes (the form says so).
  append at slices of strings of the call's own, up to 2^48 bytes; slices.Grow at nil. No condition beyond the sizes.
  What package name's Sort answers: the names sorted, each once. Condition: a slice takes at most 2^48 bytes.
-/
import Derived.Test.YtebjofffijnihaaGreatDoorGc8LRa
import Derived.Defers
import Derived.Tactics
import Derived.Test.YtebjofffijnihaaGreatDoorGc7LJn
import Derived.Test.YtebjofffijnihaaGreatDoorRows
import Derived.Shelf.SortM.Plain
import Derived.Shelf.SortM.SortNone
import Derived.Shelf.SlicesG.CompactS
import Derived.Shelf.SlicesE.Index
import Derived.Shelf.SlicesE.Equal
import Derived.Shelf.SlicesE.Clone
import Derived.Test.YtebjofffijnihaaGreatDoorGc1Ls
import Derived.SizedLaws
import Derived.SliceStrings
import Derived.Deep.Slices
import Derived.OwnWalk
import Derived.Deep.AppendLies
import Derived.Laws.OwnMore
import Derived.Shelf.Abstract
import Derived.WalkSpells
import Derived.Lib.OwnBridge
import Derived.Lib.AppendIntMem
import Derived.Sort.Walk0
import Derived.Laws.AppendOwnNone
import Derived.Lib.AppendZeros
namespace Go.Proofs.YtebjofffijnihaaGreatDoor
set_option maxRecDepth 100000
open Go
section
variable {P : Program}
def LeavesB (P : Program) (fn : Func) (tmps : Array Value) (R : Ending → World → Prop) : List Deferred → World → Prop
  | [], w => ∃ v, (results fn tmps).run P w = .ok v w ∧ R (.returned v) w
  | d :: ds, w => ∃ b ts ty cs v w1, d.target = .builtin b ts ty cs ∧ (invoke d.target d.args).run P w = .ok (.value v) w1 ∧ LeavesB P fn tmps R ds w1
def bodyPostB (P : Program) (fn : Func) (R : Ending → World → Prop) : Exit → Act → World → Prop
  | .normal, a, w | .ret, a, w => LeavesB P fn a.tmps R a.defers w
  | .outgrown, _, w => R .outgrown w
  | _, _, _ => False
theorem step_deferB {fr : Frame} {cs : List Frame} {w w1 : World} {d : Deferred} {ds : List Deferred} {b : Builtin} {ts : Array TypeId} {ty : TypeId} {ks : Array Bool} {v : Value}
    (hm : fr.mode = .returning) (hd : fr.defers = d :: ds) (ht : d.target = .builtin b ts ty ks) (hi : (invoke d.target d.args).run P w = .ok (.value v) w1) :
    step P (lone fr cs w) = .next (lone { fr with defers := ds } cs w1) := by
  obtain ⟨t, a⟩ := d
  simp only at ht hi
  subst ht
  refine step_lone_go ?_
  simp [stepG, unwind, callDeferred, hm, hd, hi]
theorem leavesB_steps {fn : Func} {tmps : Array Value} {R : Ending → World → Prop} : ∀ (ds : List Deferred) (w : World) (fr : Frame)
    (cs : List Frame), fr.mode = .returning → fr.defers = ds → fr.tmps = tmps → P.funcs[fr.fn]? = some fn → fr.kind = .normal → LeavesB P fn tmps R ds w →
    ∃ e w' fr', R e w' ∧ Comes P (lone fr cs w) (lone fr' cs w') e ∧ fr'.fn = fr.fn ∧ fr'.leaving P w' e := by
  intro ds
  induction ds with
  | nil =>
    intro w fr cs hu hd ht hf hk h
    obtain ⟨v, hr, hR⟩ := h
    exact ⟨.returned v, w, fr, hR, Steps.refl P _, rfl, hu, hd, hk, fn, hf, ht ▸ hr⟩
  | cons d ds ih =>
    intro w fr cs hu hd ht hf hk h
    obtain ⟨b, ts, ty, ks, v, w1, htar, hinv, hrest⟩ := h
    have h1 := step_deferB (cs := cs) hu hd htar hinv
    obtain ⟨e', w'', fr', hR', hs', hfn', hl'⟩ := ih w1 { fr with defers := ds } cs hu rfl ht hf hk hrest
    exact ⟨e', w'', fr', hR', Comes.of_steps (.one h1) hs', hfn', hl'⟩
theorem calls_of_wp_defersB {f : FuncId} {fn : Func} {c : Code} {args : Array Value} {w : World} {R : Ending → World → Prop}
    (hf : P.funcs[f]? = some fn) (hb : fn.body = some c)
    (h : c.wp P (bodyPostB P fn R) { tmps := args ++ Array.replicate (fn.ntmps - args.size) undef, defers := [] } w) : Calls P f args w R := by
  intro cs
  let b : Frame := { (default : Frame) with fn := f, kind := .normal }
  have henter : Frame.enter P f args .normal =
      b.at { tmps := args ++ Array.replicate (fn.ntmps - args.size) undef, defers := [] } [.code c] := by
    simp [Frame.enter, Frame.at, hf, hb, b]
  obtain ⟨e, a', w', hq, harr⟩ := h b [] cs
  rw [← henter] at harr
  cases e with
  | normal =>
    obtain ⟨e', w'', fr', hR, hs, hfn, hl⟩ := leavesB_steps a'.defers w' { b.at a' [] with mode := .returning } cs rfl rfl rfl hf rfl hq
    exact ⟨e', w'', fr', hR, Comes.of_steps (Steps.trans harr (.one step_end)) hs, hfn, hl⟩
  | ret =>
    obtain ⟨todo, hs₀⟩ := harr
    obtain ⟨e', w'', fr', hR, hs, hfn, hl⟩ := leavesB_steps a'.defers w' { b.at a' todo with mode := .returning } cs rfl rfl rfl hf rfl hq
    exact ⟨e', w'', fr', hR, Comes.of_steps hs₀ hs, hfn, hl⟩
  | panic chain => exact hq.elim
  | exit id => exact hq.elim
  | goto l => exact hq.elim
  | outgrown => exact ⟨.outgrown, w', b, hq, harr.resolve_left (by simp [b]), rfl, trivial⟩
end
end Go.Proofs.YtebjofffijnihaaGreatDoor
namespace Go.Proofs.YtebjofffijnihaaGreatDoor
set_option maxRecDepth 100000
set_option linter.unusedVariables false
open Go.ChangeShapes Go.WideShapes Go.ChangeAt Go.RowKit Go.Maps

/-- taken out of a map -/
def fdel (f : Str → Option Value) (x : Str) : Str → Option Value := fun s => if s = x then none else f s
theorem MI.del {b n : Nat} {f : Str → Option Value} {w : World} {t e : TypeId} (h : MI b n f w) (ht : Tryz.prog.underlying t = some (.map 9 e)) {x : Str} (hx : x.length ≤ maxLen) (ty : TypeId) :
    ∃ w', (Builtin.delete_ #[t, 9] ty #[.map (some b), .string (bs x)]).run Tryz.prog w = .ok (.tuple #[]) w' ∧ MI b n (fdel f x) w' ∧ w.grownBy w' (some b) ∧ w'.heap.size = w.heap.size := by
  obtain ⟨D, h, k⟩ := h
  obtain ⟨w', hr, ho, hg⟩ := h.drop keyLaw ht (key_bs hx) ty
  refine ⟨w', hr, ⟨_, ho, fun s => ?_⟩, hg.grown, ?_⟩
  · by_cases hs : s = x
    · subst hs
      refine ⟨?_, fun z => ?_⟩
      · rw [has_del_same]; simp [fdel]
      · rw [atKey_del_same]; simp [fdel]
    · have hne : Lit.string s ≠ Lit.string x := fun e => hs (by injection e)
      refine ⟨?_, fun z => ?_⟩
      · rw [has_del_other hne, (k s).1]; simp [fdel, hs]
      · rw [atKey_del_other hne, (k s).2]; simp [fdel, hs]
  · obtain ⟨es, clock, es', clock', hb, rfl⟩ := hg
    simp [Go.ChangeMaps.setBlock]
theorem fS_cons (l : List Str) (x s : Str) : upd (fS l) x (.bool true) s = fS (x :: l) s := by
  unfold upd fS
  by_cases h : s = x
  · subst h; simp
  · simp [h]
theorem fS_del {l : List Str} {x : Str} (h : l.contains x = false) (s : Str) : fdel (fS (x :: l)) x s = fS l s := by
  unfold fdel fS
  by_cases e : s = x
  · subst e; rw [if_pos rfl, h]; rfl
  · rw [if_neg e, List.contains_cons]
    have : (s == x) = false := by simpa using e
    rw [this, Bool.false_or]
section
variable {N B rb tb ob : Nat} {T : List Mc}
theorem inc_words {x y : Str} {r : List Str} (h : words x = y :: r) : inc x = decide (y = incW) := by
  unfold inc; rw [h, List.head?_cons, Bool.eq_iff_iff, beq_iff_eq, decide_eq_true_iff]
  exact ⟨fun e => by injection e, fun e => by rw [e]⟩
theorem lines_at {z : List Ln} {k : Nat} (h : k < z.length) : (z.map (·.2)).drop k = (z.getD k (0, [])).2 :: (z.map (·.2)).drop (k + 1) := by
  have h' : k < (z.map (·.2)).length := by rw [List.length_map]; exact h
  rw [List.drop_eq_getElem_cons h', List.getElem_map, List.getD, List.getElem?_eq_getElem h]; rfl
end
end Go.Proofs.YtebjofffijnihaaGreatDoor
namespace Go.Proofs.YtebjofffijnihaaGreatDoor
set_option maxRecDepth 100000
set_option linter.unusedVariables false
open Go.ChangeShapes Go.WideShapes Go.ChangeAt Go.RowKit Go.Maps

/-- what Lines hands back -/
def LnPost (s : Str) (T : List Mc) (w : World) (e : Ending) (w' : World) : Prop :=
  Below w.heap.size w w' ∧ ∃ v, e = .returned (.tuple #[v, .int .i64 (linesR s T).2]) ∧ SIn w' v (linesR s T).1 ∧ (∀ x ∈ (linesR s T).1, x.length ≤ 20001) ∧ (linesR s T).1.length ≤ 201
theorem linesR_fault {s : Str} {T : List Mc} (h : tFault T ≠ 0) : linesR s T = ([], tFault T) := by
  unfold linesR tFault at *
  by_cases h1 : 20 < T.length
  · rw [if_pos h1, if_pos h1]
  · rw [if_neg h1] at h
    rw [if_neg h1, if_neg h1, if_pos h]
theorem linesR_go {s : Str} {T : List Mc} (h : tFault T = 0) : linesR s T = if (rdS T [] 0 s).1 ≠ 0 then ([], (rdS T [] 0 s).1) else ((rdS T [] 0 s).2.1, 0) := by
  unfold linesR
  unfold tFault at h
  by_cases h1 : 20 < T.length
  · rw [if_pos h1] at h; cases h
  · rw [if_neg h1] at h
    rw [if_neg h1, if_neg (fun e => e h)]
theorem sin_none (w : World) : SIn w (.slice none 0 0) [] := ⟨none, 0, rfl, Nat.le_refl _, by simp, fun x hx => absurd hx List.not_mem_nil, .inl rfl⟩
end Go.Proofs.YtebjofffijnihaaGreatDoor
namespace Go.Proofs.YtebjofffijnihaaGreatDoor
open Go.Shelf
def sortL_ren : Ren := ⟨fun | 6 => 53 | 8 => 80 | 9 => 79 | 19 => 107 | 20 => 108 | 21 => 99 | 22 => 100 | 23 => 101 | 24 => 102 | 25 => 103 | 26 => 104 | 27 => 38 | 28 => 105 | 29 => 106 | 36 => 127 | 31 => 128 | 32 => 129 | 37 => 130 | 38 => 131 | 39 => 60 | 41 => 160 | n => n, fun | 27 => 23 | 29 => 9 | 3 => 3 | 32 => 79 | 26 => 23 | 0 => 0 | 44 => 164 | 46 => 30 | 4 => 4 | 36 => 158 | 35 => 157 | 41 => 41 | 5 => 5 | 9 => 9 | 53 => 178 | 57 => 182 | 63 => 203 | 64 => 204 | n => n, fun | n => n⟩
theorem sortL : Go.Proofs.SlLaysM.n6 Tryz.prog sortL_ren :=
  {
    mixed := by kernel_rfl
    f6 := ⟨Tryz.f53.name, by decide, Tryz.func53.trans (congrArg some (by kernel_rfl))⟩
    f8 := Tryz.func80.trans (congrArg some (by kernel_rfl))
    f9 := ⟨Tryz.f79.name, by decide, Tryz.func79.trans (congrArg some (by kernel_rfl))⟩
    f19 := Tryz.func107.trans (congrArg some (by kernel_rfl))
    f20 := Tryz.func108.trans (congrArg some (by kernel_rfl))
    f21 := ⟨Tryz.f99.name, by decide, Tryz.func99.trans (congrArg some (by kernel_rfl))⟩
    f22 := ⟨Tryz.f100.name, by decide, Tryz.func100.trans (congrArg some (by kernel_rfl))⟩
    f23 := ⟨Tryz.f101.name, by decide, Tryz.func101.trans (congrArg some (by kernel_rfl))⟩
    f24 := ⟨Tryz.f102.name, by decide, Tryz.func102.trans (congrArg some (by kernel_rfl))⟩
    f25 := ⟨Tryz.f103.name, by decide, Tryz.func103.trans (congrArg some (by kernel_rfl))⟩
    f26 := ⟨Tryz.f104.name, by decide, Tryz.func104.trans (congrArg some (by kernel_rfl))⟩
    f27 := ⟨Tryz.f38.name, by decide, Tryz.func38.trans (congrArg some (by kernel_rfl))⟩
    f28 := ⟨Tryz.f105.name, by decide, Tryz.func105.trans (congrArg some (by kernel_rfl))⟩
    f29 := ⟨Tryz.f106.name, by decide, Tryz.func106.trans (congrArg some (by kernel_rfl))⟩
    f31 := Tryz.func128.trans (congrArg some (by kernel_rfl))
    f32 := Tryz.func129.trans (congrArg some (by kernel_rfl))
    f36 := ⟨Tryz.f127.name, by decide, Tryz.func127.trans (congrArg some (by kernel_rfl))⟩
    f37 := ⟨Tryz.f130.name, by decide, Tryz.func130.trans (congrArg some (by kernel_rfl))⟩
    f38 := ⟨Tryz.f131.name, by decide, Tryz.func131.trans (congrArg some (by kernel_rfl))⟩
    f39 := ⟨Tryz.f60.name, by decide, Tryz.func60.trans (congrArg some (by kernel_rfl))⟩
    f41 := ⟨Tryz.f160.name, by decide, Tryz.func160.trans (congrArg some (by kernel_rfl))⟩
    t0 := Tryz.underlying0
    a0 := Tryz.isAgg0
    z0 := Tryz.sizeOf0
    v0 := Tryz.zeroValue0
    t3 := Tryz.underlying3
    a3 := Tryz.isAgg3
    z3 := Tryz.sizeOf3
    v3 := Tryz.zeroValue3
    t4 := Tryz.underlying4
    a4 := Tryz.isAgg4
    z4 := Tryz.sizeOf4
    v4 := Tryz.zeroValue4
    t5 := Tryz.underlying5
    a5 := Tryz.isAgg5
    z5 := Tryz.sizeOf5
    v5 := Tryz.zeroValue5
    t9 := Tryz.underlying9
    a9 := Tryz.isAgg9
    z9 := Tryz.sizeOf9
    v9 := Tryz.zeroValue9
    t26 := Tryz.underlying23
    a26 := Tryz.isAgg23
    z26 := Tryz.sizeOf23
    v26 := Tryz.zeroValue23
    t27 := Tryz.underlying23
    a27 := Tryz.isAgg23
    z27 := Tryz.sizeOf23
    v27 := Tryz.zeroValue23
    t29 := Tryz.underlying9
    a29 := Tryz.isAgg9
    z29 := Tryz.sizeOf9
    v29 := Tryz.zeroValue9
    t32 := Tryz.underlying79
    a32 := Tryz.isAgg79
    z32 := Tryz.sizeOf79
    v32 := Tryz.zeroValue79
    t35 := Tryz.underlying157
    a35 := Tryz.isAgg157
    z35 := Tryz.sizeOf157
    v35 := Tryz.zeroValue157
    t36 := Tryz.underlying158
    a36 := Tryz.isAgg158
    z36 := Tryz.sizeOf158
    v36 := Tryz.zeroValue158
    t41 := Tryz.underlying41
    a41 := Tryz.isAgg41
    z41 := Tryz.sizeOf41
    v41 := Tryz.zeroValue41
    t44 := Tryz.underlying164
    a44 := Tryz.isAgg164
    z44 := Tryz.sizeOf164
    v44 := Tryz.zeroValue164
    t46 := Tryz.underlying30
    a46 := Tryz.isAgg30
    z46 := Tryz.sizeOf30
    v46 := Tryz.zeroValue30
    t53 := Tryz.underlying178
    a53 := Tryz.isAgg178
    z53 := Tryz.sizeOf178
    v53 := Tryz.zeroValue178
    t57 := Tryz.underlying182
    a57 := Tryz.isAgg182
    z57 := Tryz.sizeOf182
    v57 := Tryz.zeroValue182
    t63 := Tryz.underlying203
    a63 := Tryz.isAgg203
    z63 := Tryz.sizeOf203
    v63 := Tryz.zeroValue203
    t64 := Tryz.underlying204
    a64 := Tryz.isAgg204
    z64 := Tryz.sizeOf204
    v64 := Tryz.zeroValue204 }
def compactL_ren : Ren := ⟨fun | 44 => 54 | n => n, fun | 25 => 23 | 26 => 9 | 3 => 3 | 4 => 4 | 0 => 0 | n => n, fun | n => n⟩
theorem compactL : Go.Proofs.SlLaysN.n44 Tryz.prog compactL_ren :=
  {
    mixed := by kernel_rfl
    f44 := ⟨Tryz.f54.name, by decide, Tryz.func54.trans (congrArg some (by kernel_rfl))⟩
    t0 := Tryz.underlying0
    a0 := Tryz.isAgg0
    z0 := Tryz.sizeOf0
    v0 := Tryz.zeroValue0
    t3 := Tryz.underlying3
    a3 := Tryz.isAgg3
    z3 := Tryz.sizeOf3
    v3 := Tryz.zeroValue3
    t4 := Tryz.underlying4
    a4 := Tryz.isAgg4
    z4 := Tryz.sizeOf4
    v4 := Tryz.zeroValue4
    t25 := Tryz.underlying23
    a25 := Tryz.isAgg23
    z25 := Tryz.sizeOf23
    v25 := Tryz.zeroValue23
    t26 := Tryz.underlying9
    a26 := Tryz.isAgg9
    z26 := Tryz.sizeOf9
    v26 := Tryz.zeroValue9
    i26 := by kernel_rfl }
def containsL_ren : Ren := ⟨fun | 31 => 75 | 29 => 96 | n => n, fun | 22 => 23 | 23 => 9 | 4 => 4 | 3 => 3 | 0 => 0 | n => n, fun | n => n⟩
theorem containsL : Go.Proofs.SlLaysE.n31 Tryz.prog containsL_ren :=
  {
    mixed := by kernel_rfl
    f29 := ⟨Tryz.f96.name, by decide, Tryz.func96.trans (congrArg some (by kernel_rfl))⟩
    f31 := ⟨Tryz.f75.name, by decide, Tryz.func75.trans (congrArg some (by kernel_rfl))⟩
    t0 := Tryz.underlying0
    a0 := Tryz.isAgg0
    z0 := Tryz.sizeOf0
    v0 := Tryz.zeroValue0
    t3 := Tryz.underlying3
    a3 := Tryz.isAgg3
    z3 := Tryz.sizeOf3
    v3 := Tryz.zeroValue3
    t4 := Tryz.underlying4
    a4 := Tryz.isAgg4
    z4 := Tryz.sizeOf4
    v4 := Tryz.zeroValue4
    t22 := Tryz.underlying23
    a22 := Tryz.isAgg23
    z22 := Tryz.sizeOf23
    v22 := Tryz.zeroValue23
    a23 := Tryz.isAgg9
    z23 := Tryz.sizeOf9 }
def equalL_ren : Ren := ⟨fun | 33 => 19 | n => n, fun | 22 => 23 | 23 => 9 | 4 => 4 | 3 => 3 | 0 => 0 | n => n, fun | n => n⟩
theorem equalL : Go.Proofs.SlLaysE.n33 Tryz.prog equalL_ren :=
  {
    mixed := by kernel_rfl
    f33 := ⟨Tryz.f19.name, by decide, Tryz.func19.trans (congrArg some (by kernel_rfl))⟩
    t0 := Tryz.underlying0
    a0 := Tryz.isAgg0
    z0 := Tryz.sizeOf0
    v0 := Tryz.zeroValue0
    t3 := Tryz.underlying3
    a3 := Tryz.isAgg3
    z3 := Tryz.sizeOf3
    v3 := Tryz.zeroValue3
    t4 := Tryz.underlying4
    a4 := Tryz.isAgg4
    z4 := Tryz.sizeOf4
    v4 := Tryz.zeroValue4
    t22 := Tryz.underlying23
    a22 := Tryz.isAgg23
    z22 := Tryz.sizeOf23
    v22 := Tryz.zeroValue23
    a23 := Tryz.isAgg9
    z23 := Tryz.sizeOf9 }
def cloneL_ren : Ren := ⟨fun | 41 => 56 | n => n, fun | 22 => 23 | 23 => 9 | 4 => 4 | n => n, fun | n => n⟩
theorem cloneL : Go.Proofs.SlLaysE0.n41 Tryz.prog cloneL_ren :=
  {
    mixed := by kernel_rfl
    f41 := ⟨Tryz.f56.name, by decide, Tryz.func56.trans (congrArg some (by kernel_rfl))⟩
    t4 := Tryz.underlying4
    a4 := Tryz.isAgg4
    z4 := Tryz.sizeOf4
    v4 := Tryz.zeroValue4
    t22 := Tryz.underlying23
    a22 := Tryz.isAgg23
    z22 := Tryz.sizeOf23
    v22 := Tryz.zeroValue23 }
end Go.Proofs.YtebjofffijnihaaGreatDoor
namespace Go.Proofs.YtebjofffijnihaaGreatDoor
set_option maxRecDepth 100000
open Go.ChangeShapes Go.WideShapes Go.ChangeAt Go.RowKit

end Go.Proofs.YtebjofffijnihaaGreatDoor
namespace Go.Proofs.YtebjofffijnihaaGreatDoor
set_option maxRecDepth 100000
open Go.ChangeShapes Go.WideShapes Go.ChangeAt Go.RowKit

theorem app_own {w : World} {base g n cap m c : Nat} {xs news : List Value} {x : Addr} {i0 : TypeInfo} {zv : Value} (ty : TypeId) (hi : Tryz.prog.info? 9 = some i0) (hz0 : i0.zero = some zv) (hz1 : i0.size = 1) (hz2 : i0.bytes = 16) (hzs : zv.cells.size = 1)
    (hown : w.ownsRow base 9 1 (.slice (some ⟨g, 0, none⟩) n cap) n xs) (hl : news.length = m) (hnews : ∀ j u, news[j]? = some u → w.cell? (x.add j) = some u) (h1 : ∀ u ∈ news, u.oneCell' = true)
    (h63 : n + m ≤ maxLen) (hfit : n + m ≤ cap ∨ Builtin.nextslicecap (n + m) cap * 16 ≤ 281474976710656) (hbase : base ≤ w.heap.size) :
    ∃ g' cap' w', (Builtin.append_ #[23, 23] ty #[.slice (some ⟨g, 0, none⟩) n cap, .slice (some x) m c]).run Tryz.prog w = .ok (.slice (some ⟨g', 0, none⟩) (n + m) cap') w' ∧
      w'.ownsRow base 9 1 (.slice (some ⟨g', 0, none⟩) (n + m) cap') (n + m) (xs ++ news) ∧ w.grownBy w' (some g) ∧ (n + m ≤ cap → cap' = cap ∧ g' = g) := by
  have hlx : xs.length = n := by simpa using hown.1
  have hlen : (xs ++ news).length = (n + m) * 1 := by rw [List.length_append, hlx, hl]; omega
  obtain ⟨cur, hg, hnc, hcm, hcs, htake⟩ : ∃ cur, w.heap[g]? = some (.cells cur 9 (0, 0)) ∧ n ≤ cap ∧ cap ≤ maxLen ∧ cur.size = cap * 1 ∧ cur.toList.take (n * 1) = xs := by
    rcases hown.2 with ⟨h, _⟩ | ⟨g', cap', cur, hv, _, hg, hn, hm, hs, ht⟩
    · cases h
    · cases hv
      exact ⟨cur, hg, hn, hm, hs, ht⟩
  have hbg : base ≤ g := (hown.lt g rfl).1
  by_cases hroom : n + m ≤ cap
  · have hr := run_append_room (P := Tryz.prog) w 23 ty 9 i0 Tryz.underlying23 hi g n cap cur hg x m c news (by rw [hz1, hl]; omega) hnews h1 hroom (by rw [hz1, hl, hcs]; omega)
    rw [hz1] at hr
    refine ⟨g, cap, _, hr, ⟨hlen, .inr ⟨g, cap, _, rfl, hbg, setRow_heap w g cur _ 9 _ hg, hroom, hcm, ?_, ?_⟩⟩, ⟨rfl, rfl, rfl, by simp, fun k _ hk => setRow_other w g k _ (fun e => hk (by rw [e]))⟩, fun _ => ⟨rfl, rfl⟩⟩
    · simp only [List.size_toArray, List.length_append, List.length_take, List.length_drop, Array.length_toList]
      omega
    · rw [htake, ← hlen]
      exact List.take_left
  · have hf : Builtin.nextslicecap (n + m) cap * i0.bytes ≤ 281474976710656 := by
      rw [hz2]
      rcases hfit with h | h
      · exact absurd h hroom
      · exact h
    have holds : ∀ j u, xs[j]? = some u → w.cell? ((⟨g, 0, none⟩ : Addr).add j) = some u := hown.cells (g := g) rfl
    have hr := run_append_grow (P := Tryz.prog) w 23 ty 9 i0 zv Tryz.underlying23 hi hz0 ⟨g, 0, none⟩ n cap xs (by rw [hz1, hlx]; omega) holds x m c news (by rw [hz1, hl]; omega) hnews (by omega) (by unfold maxLen at h63; omega) hf
    have hge := grownCap_ge w (n + m) cap 9
    refine ⟨_, _, _, hr, ⟨hlen, .inr ⟨w.heap.size, _, _, rfl, hbase, heap_alloc_new w.drew _, hge, grownCap_le_maxLen w (n + m) cap 9 h63, ?_, ?_⟩⟩, ⟨rfl, rfl, rfl, by simp, fun k hk _ => heap_alloc_old w.drew _ hk⟩, fun h => absurd h hroom⟩
    · simp only [Array.size_append, List.size_toArray, size_zeroCells, hzs, hlx, hl]
      omega
    · simp only [Array.toList_append, List.append_assoc]
      rw [← List.append_assoc, ← hlen]
      exact List.take_left

/-- nothing is appended -/
theorem app_none {w : World} {base n : Nat} {v : Value} {xs : List Value} (ty : TypeId) (hown : w.ownsRow base 9 1 v n xs) (a : Option Addr) (c : Nat) :
    (Builtin.append_ #[23, 23] ty #[v, .slice a 0 c]).run Tryz.prog w = .ok v w := by
  obtain ⟨i0, hi, hz0, hz1, hz2⟩ := info_parts infoStr
  obtain ⟨b, cap, rfl, hn⟩ : ∃ b cap, v = .slice b n cap ∧ n ≤ cap := by
    rcases hown.2 with ⟨rfl, rfl⟩ | ⟨g, cap, cur, rfl, _, _, hn, _⟩
    · exact ⟨none, 0, rfl, Nat.le_refl _⟩
    · exact ⟨_, cap, rfl, hn⟩
  cases a with
  | none => cases b <;> simp [Builtin.append_, run_underlying Tryz.underlying23, sizeOf, typeInfo, hi, Builtin.lenOf, hn, Builtin.firstCells, storeCells]
  | some x =>
    have hf := run_firstCells_some (P := Tryz.prog) w i0.size 0 x 0 c [] (by simp) (by simp)
    cases b <;> simp [Builtin.append_, run_underlying Tryz.underlying23, sizeOf, typeInfo, hi, Builtin.lenOf, hn, hf, storeCells]

/-- strings appended to a row of the call's own -/
theorem app_strs {w : World} {base g cap : Nat} {v2 : Value} {z1 z2 : List Str} (ty : TypeId) (hown : w.ownsRow base 9 1 (.slice (some ⟨g, 0, none⟩) z1.length cap) z1.length (z1.map encStr)) (h2 : SIn w v2 z2)
    (h63 : z1.length + z2.length ≤ maxLen) (hfit : z1.length + z2.length ≤ cap ∨ Builtin.nextslicecap (z1.length + z2.length) cap * 16 ≤ 281474976710656) (hbase : base ≤ w.heap.size) :
    ∃ g' cap' w', (Builtin.append_ #[23, 23] ty #[.slice (some ⟨g, 0, none⟩) z1.length cap, v2]).run Tryz.prog w = .ok (.slice (some ⟨g', 0, none⟩) (z1 ++ z2).length cap') w' ∧
      w'.ownsRow base 9 1 (.slice (some ⟨g', 0, none⟩) (z1 ++ z2).length cap') (z1 ++ z2).length ((z1 ++ z2).map encStr) ∧ w.grownBy w' (some g) ∧ (z1.length + z2.length ≤ cap → cap' = cap ∧ g' = g) := by
  rcases h2.open with ⟨rfl, a, c, rfl⟩ | ⟨_, b, off, c, rfl, _, _, hc⟩
  · rw [List.append_nil]
    exact ⟨g, cap, w, app_none ty hown a c, hown, ⟨rfl, rfl, rfl, Nat.le_refl _, fun _ _ _ => rfl⟩, fun _ => ⟨rfl, rfl⟩⟩
  · obtain ⟨i0, hi, hz0, hz1, hz2⟩ := info_parts infoStr
    obtain ⟨g', cap', w', h1, h2, h3, h4⟩ := app_own (x := ⟨b, off, none⟩) (m := z2.length) (c := c) (news := z2.map encStr) ty hi hz0 hz1 hz2 rfl hown (by simp) (fun j u hj => by
      have hlt : j < z2.length := by
        rcases Nat.lt_or_ge j z2.length with h | h
        · exact h
        · rw [List.getElem?_eq_none (by rw [List.length_map]; exact h)] at hj; cases hj
      rw [List.getElem?_map, List.getElem?_eq_getElem hlt] at hj
      cases hj
      have := hc j hlt
      rw [List.getD, List.getElem?_eq_getElem hlt] at this
      have ea : (⟨b, off, none⟩ : Addr).add j = ⟨b, off + j, none⟩ := by
        unfold Addr.add
        by_cases e : j = 0 <;> simp [e]
      rw [ea]
      exact this) (by intro u hu; simp at hu; obtain ⟨_, _, rfl⟩ := hu; rfl) h63 hfit hbase
    rw [← List.map_append] at h2
    rw [List.length_append]
    exact ⟨g', cap', w', h1, h2, h3, h4⟩

theorem nextcap_zero (m : Nat) (h : m ≤ 17592186044416) : Builtin.nextslicecap (0 + m) 0 * 16 ≤ 281474976710656 := by
  unfold Builtin.nextslicecap
  by_cases h0 : m = 0
  · subst h0; decide
  · rw [if_pos (by omega)]; omega
end Go.Proofs.YtebjofffijnihaaGreatDoor
namespace Go.Proofs.YtebjofffijnihaaGreatDoor
set_option maxRecDepth 100000
open Go.ChangeShapes Go.WideShapes Go.ChangeAt Go.RowKit

/-! slices.Clone -/
set_option maxHeartbeats 1000000 in
theorem clone_some (x : Addr) (n c : Nat) (z : List Str) (w : World) (hz : z.length = n) (hn : n ≤ 17592186044416) (hc : ∀ k, k < n → w.cell? (x.add k) = some (.string (bs (z.getD k [])))) :
    Calls Tryz.prog 56 #[.slice (some x) n c] w fun e w' => ∃ v, e = .returned v ∧ w'.ownsRow w.heap.size 9 1 v n (z.map encStr) ∧ Below w.heap.size w w' := by
  obtain ⟨i0, hi, hz0, hz1, hz2⟩ := info_parts infoStr
  obtain ⟨g', cap', w1, hr, hown, hgrow, _⟩ := app_own (w := w.alloc (.cells #[] 9)) (base := w.heap.size) (g := w.heap.size) (n := 0) (cap := 0) (m := n) (c := c) (xs := []) (news := z.map encStr) (x := x) 23 hi hz0 hz1 hz2 rfl
    (World.ownsRow_made w #[] 0 (Nat.le_refl _) (Nat.zero_le _) (by simp)) (by rw [List.length_map, hz]) (fun j u hj => by
      have hlt : j < z.length := by
        rcases Nat.lt_or_ge j z.length with h | h
        · exact h
        · rw [List.getElem?_eq_none (by rw [List.length_map]; exact h)] at hj; cases hj
      rw [List.getElem?_map, List.getElem?_eq_getElem hlt] at hj
      cases hj
      have := hc j (hz ▸ hlt)
      rw [List.getD, List.getElem?_eq_getElem hlt] at this
      exact cell_later (Below.alloc (Below.refl _ w) (Nat.le_refl _) _) this) (by intro u hu; simp at hu; obtain ⟨_, _, rfl⟩ := hu; rfl) (by unfold maxLen; omega) (.inr (nextcap_zero n hn)) (by simp)
  have HR := Lib.hid hr; clear hr
  have HO := Lib.hid hown; clear hown
  have HG := Lib.hid hgrow; clear hgrow hc hi hz0 hz1 hz2 hz
  have q := fun (w : World) (a : Option Addr) (n c n' c' : Nat) => Lib.run_eql_slice_nil (P := Tryz.prog) w 23 9 a n c n' c' Tryz.underlying23
  go_enter Tryz.func56, Tryz.ntmps56
  go_wp2_with (at_builtin; refine Lib.wpList_append_run _ rfl _ _ 23 23 rfl _ _ rfl rfl _ _ HR.out ?_)
  go_ret
  refine ⟨_, rfl, by simpa using HO.out, ?_⟩
  exact (Below.alloc (Below.refl _ w) (Nat.le_refl _) _).grown HG.out (by simp) (by intro k hk; cases hk; exact Nat.le_refl _)
theorem clone_nil (n c : Nat) (w : World) : Calls Tryz.prog 56 #[.slice none n c] w fun e w' => e = .returned (.slice none 0 0) ∧ w = w' := by
  have q := fun (w : World) (a : Option Addr) (n c n' c' : Nat) => Lib.run_eql_slice_nil (P := Tryz.prog) w 23 9 a n c n' c' Tryz.underlying23
  go_enter Tryz.func56, Tryz.ntmps56
  go_wp2
  go_ret
  exact ⟨rfl, rfl⟩
theorem clone_of {w : World} {v : Value} {z : List Str} (h : SIn w v z) :
    Calls Tryz.prog 56 #[v] w fun e w' => ∃ v', e = .returned v' ∧ w'.ownsRow w.heap.size 9 1 v' z.length (z.map encStr) ∧ Below w.heap.size w w' := by
  rcases h.open with ⟨rfl, a, cap, rfl⟩ | ⟨_, b, off, cap, rfl, _, _, hc⟩
  · cases a with
    | none => exact (clone_nil 0 cap w).mono fun e w' k => ⟨_, k.1, k.2 ▸ World.ownsRow_nil _ _ _ _, k.2 ▸ Below.refl _ _⟩
    | some x => exact clone_some x 0 cap [] w rfl (by omega) (fun k hk => absurd hk (Nat.not_lt_zero _))
  · refine clone_some _ _ cap z w rfl h.bound (fun k hk => ?_)
    rw [← hc k hk]
    congr 1
    unfold Addr.add
    by_cases k0 : k = 0 <;> simp [k0]

/-! slices.Sort, slices.Compact at a row of the call's own -/
theorem sortRow_own {v : Value} {n : Nat} {z : List Str} {base : Nat} {w : World} (hown : w.ownsRow base 9 1 v n (z.map encStr)) (hn : n < 4611686018427387904) :
    Calls Tryz.prog 53 #[v] w fun e w' =>
      e = .returned (.tuple #[]) ∧ w'.ownsRow base 9 1 v n ((sortS z).map encStr) ∧ (∀ B w0, B ≤ base → Below B w0 w → Below B w0 w') := by
  by_cases h0 : n = 0
  · subst h0
    have hz : z = [] := by have := hown.1; simpa using this
    subst hz
    obtain ⟨a, c, rfl⟩ : ∃ a c, v = .slice a 0 c := by
      rcases hown.2 with ⟨h, _⟩ | ⟨g, cap, _, h, _⟩
      · exact ⟨_, _, h⟩
      · exact ⟨_, _, h⟩
    have hS := AnyM.slices_Sort_string_none (P := Tryz.prog) (ρ := sortL_ren) sortL a c w
    refine Calls.mono (show Calls Tryz.prog 53 _ _ _ from hS) ?_
    rintro e w' ⟨he, rfl⟩
    rw [List.Perm.eq_nil (sortS_perm [])]
    exact ⟨he, hown, fun _ _ _ h => h⟩
  · have hv : v ≠ .slice none 0 0 := by
      rintro rfl
      rcases hown.2 with ⟨_, h⟩ | ⟨g, cap, _, h, _⟩
      · exact h0 h
      · cases h
    obtain ⟨g, cap, rfl, hb, hlt, _, _, hl, hH⟩ := Lib.holds_of_ownsRow hown hv
    have hS := AnyM.slices_Sort_string sortL g 0 cap z w hH hlt (by omega)
    rw [hl] at hS
    refine Calls.mono (show Calls Tryz.prog 53 _ _ _ from hS) ?_
    rintro e w' ⟨he, q, os, rfl⟩
    have hsl : (sortS z).length = n := by rw [(sortS_perm z).length_eq]; exact hl
    have h1 := Lib.ownsRow_putRow (q := q) hown hsl (Nat.le_refl n)
    rw [List.take_of_length_le (by omega)] at h1
    refine ⟨he, ?_, fun B w0 hB hbel => ?_⟩
    · exact Lib.ownsRow_grow h1 0 os
    · have hz : (Go.Sort.putRow encStr (Go.Sort.ahead w q) g 0 (sortS z).toArray).heap.size = w.heap.size := by simp
      exact (Lib.below_putRow (enc := encStr) (q := q) (d := (sortS z).toArray) hbel (Nat.le_trans hB hb)).trans (Lib.below_grow B _ (by omega) 0 os)

theorem compactRow_own {v : Value} {n : Nat} {z : List Str} {base : Nat} {w : World} (hown : w.ownsRow base 9 1 v n (z.map encStr)) (hn : n < 4611686018427387904) :
    Calls Tryz.prog 54 #[v] w fun e w' =>
      ∃ v', e = .returned v' ∧ w'.ownsRow base 9 1 v' (Lib.compact z).length ((Lib.compact z).map encStr) ∧ (∀ B w0, B ≤ base → Below B w0 w → Below B w0 w') := by
  by_cases h0 : n = 0
  · subst h0
    have hz : z = [] := by have := hown.1; simpa using this
    subst hz
    obtain ⟨a, c, rfl⟩ : ∃ a c, v = .slice a 0 c := by
      rcases hown.2 with ⟨h, _⟩ | ⟨g, cap, _, h, _⟩
      · exact ⟨_, _, h⟩
      · exact ⟨_, _, h⟩
    have hS := AnyG.slices_Compact_string_empty (P := Tryz.prog) (ρ := compactL_ren) compactL a c w
    refine Calls.mono (show Calls Tryz.prog 54 _ _ _ from hS) ?_
    rintro e w' ⟨he, rfl⟩
    exact ⟨_, he, hown, fun _ _ _ h => h⟩
  · have hv : v ≠ .slice none 0 0 := by
      rintro rfl
      rcases hown.2 with ⟨_, h⟩ | ⟨g, cap, _, h, _⟩
      · exact h0 h
      · cases h
    obtain ⟨g, cap, rfl, hb, hlt, hcap, _, hl, hH⟩ := Lib.holds_of_ownsRow hown hv
    have hS := AnyG.slices_Compact_string compactL g 0 cap z w hH (by omega) (by omega)
    rw [hl] at hS
    refine Calls.mono (show Calls Tryz.prog 54 _ _ _ from hS) ?_
    rintro e w' ⟨he, q, rfl⟩
    have hk : (Lib.compact z).length ≤ n := by have := compact_le z; omega
    have h1 := Lib.ownsRow_putRow (q := q) (ys := Lib.compact z ++ List.replicate (n - (Lib.compact z).length) []) hown (by rw [List.length_append, List.length_replicate]; omega) hk
    rw [List.take_left] at h1
    exact ⟨_, he, h1, fun B w0 hB hbel => Lib.below_putRow (enc := encStr) (q := q) hbel (Nat.le_trans hB hb)⟩

/-- what Sort hands back -/
def SortPost (z : List Str) (w : World) (e : Ending) (w' : World) : Prop :=
  (z.all good = true ∧ ∃ v, e = .returned (.tuple #[v, .int .i64 0]) ∧ w'.ownsRow w.heap.size 9 1 v (uniq z).length ((uniq z).map encStr) ∧ Below w.heap.size w w') ∨
  (z.all good = false ∧ e = .returned (.tuple #[.slice none 0 0, .int .i64 3]) ∧ w' = w)

theorem all_good {z : List Str} (h : ∀ j, j < z.length → good (z.getD j []) = true) : z.all good = true := by
  rw [List.all_eq_true]
  intro x hx
  obtain ⟨i, hi, rfl⟩ := mem_getD hx
  exact h i hi
theorem all_bad {z : List Str} {k : Nat} (hk : k < z.length) (h : good (z.getD k []) = false) : z.all good = false := by
  rw [List.all_eq_false]
  exact ⟨_, getD_mem hk, by simpa using h⟩

set_option maxHeartbeats 1000000 in
theorem sort_any {w : World} {v : Value} {z : List Str} (h : SIn w v z) :
    Calls Tryz.prog 33 #[v] w (SortPost z w) := by
  have F := Lib.hid h
  have hn := h.bound
  have HX : Hid (∀ k, k < z.length → (bs (z.getD k [])).size ≤ 9223372036854775807) := fun k hk => by rw [bs_size]; exact F.out.small _ (getD_mem hk)
  have tail : ∀ (k : Nat), Hid (z.all good = true) → Calls Tryz.prog 56 #[v] w fun e w' => ∃ v', e = .returned v' ∧ w'.ownsRow w.heap.size 9 1 v' z.length (z.map encStr) ∧ Below w.heap.size w w' := fun _ _ => clone_of F.out
  rcases h.open with ⟨hz, a, cap, rfl⟩ | ⟨hpos, b, off, cap, rfl, hcap, hlt, hc⟩
  · clear h hn HX
    subst hz
    go_enter Tryz.func33, Tryz.ntmps33
    go_wp2_with fail
    go_loopw [10] (fun i wr => i = .int .i64 0 ∧ wr = w) (fun _ _ => 0)
    case atStart => exact ⟨rfl, rfl⟩
    case round =>
      obtain ⟨rfl, rfl⟩ := hrel
      go_wp2_with fail
      refine (clone_of F.out).mono ?_
      rintro e wc ⟨v', rfl, hown, hbel⟩
      have HO := Lib.hid hown; clear hown
      have HB := Lib.hid hbel; clear hbel
      go_wp2_with fail
      refine (sortRow_own HO.out (by simp)).mono ?_
      rintro e wd ⟨rfl, hown, hbel⟩
      have HO2 := Lib.hid hown; clear hown
      have HB2 := Lib.hid (hbel _ _ (Nat.le_refl _) HB.out); clear hbel
      go_wp2_with fail
      refine (compactRow_own HO2.out (by simp)).mono ?_
      rintro e we ⟨v2, rfl, hown, hbel⟩
      have HO3 := Lib.hid hown; clear hown
      have HB3 := Lib.hid (hbel _ _ (Nat.le_refl _) HB2.out); clear hbel
      go_wp2
      go_ret2
      exact .inl ⟨rfl, v2, rfl, HO3.out, HB3.out⟩
  · clear h
    have HC := Lib.hid hc; clear hc
    have HG : Hid ((∀ j, j < z.length → good (z.getD j []) = true) → z.all good = true) := all_good
    have HN : Hid (∀ k, k < z.length → good (z.getD k []) = false → z.all good = false) := fun k => all_bad
    have HB0 : Hid (∀ k, good (bs (z.getD k [])).data.toList = good (z.getD k [])) := fun k => by rw [bs_list]
    generalize hL : z.length = L at *
    have HL := Lib.hid hL; clear hL
    go_enter Tryz.func33, Tryz.ntmps33
    go_wp2_with fail
    go_loopw [10] (fun i wr => ∃ k : Nat, k ≤ L ∧ i = .int .i64 (k : Int) ∧ (∀ j, j < k → good (z.getD j []) = true) ∧ wr = w) (fun i _ => L - (intOf i).toNat)
    case atStart => exact ⟨0, by omega, rfl, fun _ h => absurd h (Nat.not_lt_zero _), rfl⟩
    case round =>
      obtain ⟨k, hk, rfl, hall, rfl⟩ := hrel
      have HA := Lib.hid hall; clear hall
      by_cases hk2 : k < L
      · have c1 := HC.out k hk2
        go_wp2_with fail
        refine (check_any _ _ (HX.out k hk2)).mono ?_
        rw [HB0.out k]
        rintro e w' ⟨rfl, rfl⟩
        clear c1
        cases hd : good (z.getD k []) with
        | false =>
          have HD := Lib.hid (HN.out k hk2 hd); clear hd
          go_wp2
          go_ret2
          exact .inr ⟨HD.out, rfl, rfl⟩
        | true =>
          have HD := Lib.hid hd; clear hd
          go_wp2
          go_roundw
          case rel =>
            refine ⟨k + 1, by omega, by go_num, fun j hj => ?_, trivial⟩
            rcases Nat.lt_succ_iff_lt_or_eq.1 hj with h | h
            · exact HA.out j h
            · rw [h]; exact HD.out
          case measure => simp [intOf]; omega
      · obtain rfl : k = L := by omega
        have HD := Lib.hid (HG.out HA.out)
        go_wp2_with fail
        refine (clone_of F.out).mono ?_
        rintro e wc ⟨v', rfl, hown, hbel⟩
        have HO := Lib.hid hown; clear hown
        have HB := Lib.hid hbel; clear hbel
        have hn2 : Hid (z.length < 4611686018427387904) := by show _ < _; rw [HL.out]; omega
        go_wp2_with fail
        refine (sortRow_own HO.out hn2.out).mono ?_
        rintro e wd ⟨rfl, hown, hbel⟩
        have HO2 := Lib.hid hown; clear hown
        have HB2 := Lib.hid (hbel _ _ (Nat.le_refl _) HB.out); clear hbel
        go_wp2_with fail
        refine (compactRow_own HO2.out hn2.out).mono ?_
        rintro e we ⟨v2, rfl, hown, hbel⟩
        have HO3 := Lib.hid hown; clear hown
        have HB3 := Lib.hid (hbel _ _ (Nat.le_refl _) HB2.out); clear hbel
        go_wp2
        go_ret2
        exact .inl ⟨HD.out, v2, rfl, HO3.out, HB3.out⟩
end Go.Proofs.YtebjofffijnihaaGreatDoor
