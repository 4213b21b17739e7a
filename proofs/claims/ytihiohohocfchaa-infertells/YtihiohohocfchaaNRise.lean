/-
  What the reference's Rising answers: the strings sorted, each once. Condition: at most 4194304 of them.
-/
import Derived.Test.YtihiohohocfchaaNGood
import Derived.Deep.RegionLaw
import Derived.Deep.AppendSrc
namespace Go.Proofs.Ytihiohohocfchaa
set_option maxRecDepth 100000
open Go.ChangeShapes Go.WideShapes Go.ChangeAt Go.RowKit

/-- x put in at place k -/
def ins (k : Nat) (x : Str) (U : List Str) : List Str := U.take k ++ x :: U.drop k
theorem ins_length (k : Nat) (x : Str) (U : List Str) : (ins k x U).length = U.length + 1 := by
  unfold ins
  rw [List.length_append, List.length_cons, List.length_take, List.length_drop]
  omega
theorem ins_mem {k : Nat} {x y : Str} {U : List Str} : y ∈ ins k x U ↔ y = x ∨ y ∈ U := by
  unfold ins
  rw [List.mem_append, List.mem_cons]
  constructor
  · rintro (h | h | h)
    · exact .inr (List.mem_of_mem_take h)
    · exact .inl h
    · exact .inr (List.mem_of_mem_drop h)
  · rintro (h | h)
    · exact .inr (.inl h)
    · rw [← List.take_append_drop k U] at h
      rcases List.mem_append.1 h with h | h
      · exact .inl h
      · exact .inr (.inr h)
theorem mem_take_at {U : List Str} {k : Nat} {y : Str} (h : y ∈ U.take k) : ∃ t, t < k ∧ t < U.length ∧ U.getD t [] = y := by
  obtain ⟨i, hi, e⟩ := List.getElem_of_mem h
  have hi' := hi
  rw [List.length_take] at hi'
  refine ⟨i, by omega, by omega, ?_⟩
  rw [List.getElem_take] at e
  rw [List.getD, List.getElem?_eq_getElem (by omega)]; exact e
theorem mem_drop_at {U : List Str} {k : Nat} {y : Str} (h : y ∈ U.drop k) : ∃ t, k ≤ t ∧ t < U.length ∧ U.getD t [] = y := by
  obtain ⟨i, hi, e⟩ := List.getElem_of_mem h
  have hi' := hi
  rw [List.length_drop] at hi'
  refine ⟨k + i, by omega, by omega, ?_⟩
  rw [List.getElem_drop] at e
  rw [List.getD, List.getElem?_eq_getElem (by omega)]; exact e
theorem ins_up {k : Nat} {x : Str} {U : List Str} (hU : Up U) (hlo : ∀ t, t < k → t < U.length → U.getD t [] < x) (hhi : k < U.length → ¬ U.getD k [] < x) (hx : x ∉ U) : Up (ins k x U) := by
  have hgt : ∀ y ∈ U.drop k, x < y := fun y hy => by
    obtain ⟨t, h1, h2, rfl⟩ := mem_drop_at hy
    have h3 : x ≤ U.getD t [] := List.le_trans (List.not_lt.1 (hhi (by omega))) (up_le hU h1 h2)
    exact lt_of_le_ne h3 (fun e => hx (e ▸ getD_mem h2))
  have hlt : ∀ y ∈ U.take k, y < x := fun y hy => by
    obtain ⟨t, h1, h2, rfl⟩ := mem_take_at hy
    exact hlo t h1 h2
  unfold ins Up
  refine List.pairwise_append.2 ⟨hU.sublist (List.take_sublist _ _), List.pairwise_cons.2 ⟨hgt, hU.sublist (List.drop_sublist _ _)⟩, fun a ha b hb => ?_⟩
  rcases List.mem_cons.1 hb with rfl | hb
  · exact hlt a ha
  · exact List.lt_trans (hlt a ha) (hgt b hb)

/-- append as one step of a region that draws -/
theorem step_append_run {P : Program} {ops : Array Oper} {o : Oper} {a : Act} {w : World} {K : Act → World → Prop} {Q : Exit → Act → World → Prop} {E : Prop}
    (hg : o.guard = none) (s x : Operand) (t : TypeId) (hop : o.op = Op.call { callee := Callee.builtin Builtin.append, args := #[s, x], argTypes := #[t, t] })
    (vs vx : Value) (hs : a.eval s = vs) (hx : a.eval x = vx) (v' : Value) (w' : World) (hr : (Builtin.append_ #[t, t] o.type #[vs, vx]).run P w = .ok v' w') (hK : K (a.put o.dst v') w') :
    if Region.wanted o (yielded ops a.tmps) = true then Oper.wp P o a w K Q else E := by
  have hw : Region.wanted o (yielded ops a.tmps) = true := by simp [Region.wanted, hg]
  rw [if_pos hw]
  unfold Oper.wp
  simp [execOp, hop, resolve, invoke, builtin, hs, hx, hr, Result.andThen]
  exact hK

theorem map_at {l : List Str} {j : Nat} {u : Value} (h : (l.map encStr)[j]? = some u) : ∃ hj : j < l.length, u = encStr l[j] := by
  have hlt : j < l.length := by
    rcases Nat.lt_or_ge j l.length with k | k
    · exact k
    · rw [List.getElem?_eq_none (by rw [List.length_map]; exact k)] at h; cases h
  rw [List.getElem?_map, List.getElem?_eq_getElem hlt] at h
  cases h
  exact ⟨hlt, rfl⟩
theorem map_one (l : List Str) : ∀ u ∈ l.map encStr, u.oneCell' = true := by intro u hu; simp at hu; obtain ⟨_, _, rfl⟩ := hu; rfl
theorem addr0 (g j : Nat) : (⟨g, 0, none⟩ : Addr).add j = ⟨g, j, none⟩ := by unfold Addr.add; by_cases h : j = 0 <;> simp [h]
theorem addrK (g k j : Nat) : (⟨g, k, none⟩ : Addr).add j = ⟨g, k + j, none⟩ := by unfold Addr.add; by_cases h : j = 0 <;> simp [h]

/-- appended to a slice that has no room: a new row -/
theorem app_new {w : World} {base k m c : Nat} {olds news : List Str} {b x : Addr} (ty : TypeId) (hlo : olds.length = k) (ho : ∀ j u, (olds.map encStr)[j]? = some u → w.cell? (b.add j) = some u)
    (hl : news.length = m) (hc : ∀ j u, (news.map encStr)[j]? = some u → w.cell? (x.add j) = some u) (hm : 0 < m) (hbig : k + m ≤ 8388608) (hbase : base ≤ w.heap.size) :
    ∃ cap' w', (Builtin.append_ #[24, 24] ty #[.slice (some b) k k, .slice (some x) m c]).run Try.prog w = .ok (.slice (some ⟨w.heap.size, 0, none⟩) (k + m) cap') w' ∧ k + m ≤ cap' ∧
      w'.ownsRow base 9 1 (.slice (some ⟨w.heap.size, 0, none⟩) (k + m) cap') (k + m) ((olds ++ news).map encStr) ∧ w.grownBy w' none := by
  obtain ⟨i0, hi, hz0, hz1, hz2⟩ := info_parts infoStr
  have hr := run_append_grow (P := Try.prog) w 24 ty 9 i0 (.string ByteArray.empty) Try.underlying24 hi hz0 b k k (olds.map encStr) (by rw [hz1, List.length_map, hlo]; omega) ho x m c (news.map encStr) (by rw [hz1, List.length_map, hl]; omega) hc (by omega) (by omega) (growslice_fits (by omega) (by rw [hz2]; omega))
  have hge := grownCap_ge w (k + m) k 9
  have hlen : ((olds ++ news).map encStr).length = (k + m) * 1 := by rw [List.length_map, List.length_append, hlo, hl]; omega
  refine ⟨_, _, hr, hge, ⟨hlen, .inr ⟨w.heap.size, _, _, rfl, hbase, heap_alloc_new w.drew _, hge, grownCap_le_maxLen w (k + m) k 9 (by unfold maxLen; omega), ?_, ?_⟩⟩, ⟨rfl, rfl, rfl, by simp, fun k hk _ => heap_alloc_old w.drew _ hk⟩⟩
  · simp only [Array.size_append, List.size_toArray, size_zeroCells, List.length_map, hlo, hl]
    show k + m + _ * 1 = _
    omega
  · simp only [Array.toList_append, List.append_assoc]
    rw [← List.append_assoc, ← hlen, List.map_append]
    exact List.take_left

/-- what the reference's two appends leave -/
theorem rise_some {W : World} {base g n cap k : Nat} {U : List Str} (x : Str) (hown : W.ownsRow base 9 1 (.slice (some ⟨g, 0, none⟩) n cap) n (U.map encStr)) (hk : k ≤ n) (hn : n ≤ 4194304) (hbase : base ≤ W.heap.size)
    (A : Option Addr) (hA : k < n → A = some ⟨g, k, none⟩) (c : Nat) :
    ∃ v2 W2 g3 cap3 W3, (Builtin.append_ #[24, 24] 24 #[.slice (some ⟨W.heap.size, 0, none⟩) 1 1, .slice A (n - k) c]).run Try.prog (W.alloc (.cells #[.string (bs x)] 9)) = .ok v2 W2 ∧
      (Builtin.append_ #[24, 24] 24 #[.slice (some ⟨g, 0, none⟩) k k, v2]).run Try.prog W2 = .ok (.slice (some ⟨g3, 0, none⟩) (n + 1) cap3) W3 ∧
      n + 1 ≤ cap3 ∧ W3.ownsRow base 9 1 (.slice (some ⟨g3, 0, none⟩) (n + 1) cap3) (n + 1) ((ins k x U).map encStr) ∧ Below base W W3 := by
  have hU : U.length = n := by have := hown.1; simpa using this
  have hg := hown.lt g rfl
  have hrow : (W.alloc (.cells #[.string (bs x)] 9)).ownsRow base 9 1 (.slice (some ⟨W.heap.size, 0, none⟩) 1 1) 1 ([x].map encStr) :=
    ⟨rfl, .inr ⟨W.heap.size, 1, #[.string (bs x)], rfl, hbase, heap_alloc_new W _, Nat.le_refl _, by unfold maxLen; omega, rfl, rfl⟩⟩
  have hB1 : Below base W (W.alloc (.cells #[.string (bs x)] 9)) := (Below.refl _ W).alloc hbase _
  have hown1 := hown.alloc (.cells #[.string (bs x)] 9)
  have hsz1 : (W.alloc (.cells #[.string (bs x)] 9)).heap.size = W.heap.size + 1 := by simp
  -- the inner append
  obtain ⟨g2, cap2, W2, r1, o2, hB2, hown2⟩ : ∃ g2 cap2 W2, (Builtin.append_ #[24, 24] 24 #[.slice (some ⟨W.heap.size, 0, none⟩) 1 1, .slice A (n - k) c]).run Try.prog (W.alloc (.cells #[.string (bs x)] 9)) = .ok (.slice (some ⟨g2, 0, none⟩) (1 + (n - k)) cap2) W2 ∧
      W2.ownsRow base 9 1 (.slice (some ⟨g2, 0, none⟩) (1 + (n - k)) cap2) (1 + (n - k)) ((x :: U.drop k).map encStr) ∧ Below base W W2 ∧ W2.ownsRow base 9 1 (.slice (some ⟨g, 0, none⟩) n cap) n (U.map encStr) := by
    by_cases hkn : k < n
    · rw [hA hkn]
      obtain ⟨i0, hi, hz0, hz1, hz2⟩ := info_parts infoStr
      obtain ⟨g2, cap2, W2, r1, o2, gr2, _⟩ := app_own (x := ⟨g, k, none⟩) (m := n - k) (c := c) (news := (U.drop k).map encStr) 24 hi hz0 hz1 hz2 rfl hrow (by rw [List.length_map, List.length_drop, hU]) (fun j u hj => by
          obtain ⟨hlt, rfl⟩ := map_at hj
          rw [List.length_drop] at hlt
          have := hown1.cells (g := g) rfl (k + j) (encStr (U.drop k)[j]) (by rw [List.getElem?_map, List.getElem?_eq_getElem (by omega), List.getElem_drop]; rfl)
          rw [addr0] at this
          rw [addrK]; exact this) (map_one _) (by unfold maxLen; omega) (.inr (growslice_fits (by omega) (by omega))) (by omega)
      refine ⟨g2, cap2, W2, r1, ?_, hB1.grown gr2 (by omega) (by intro q hq; cases hq; exact hbase), hown1.kept gr2 (.inr (by simp [Value.ownBlock]; omega))⟩
      simpa using o2
    · have e0 : n - k = 0 := by omega
      rw [e0]
      refine ⟨W.heap.size, 1, _, app_none 24 hrow A c, ?_, hB1, hown1⟩
      have : U.drop k = [] := List.drop_eq_nil_of_le (by omega)
      rw [this]; exact hrow
  -- the outer append
  obtain ⟨cap3, W3, r2, hc3, o3, gr3⟩ := app_new (w := W2) (base := base) (k := k) (m := 1 + (n - k)) (c := cap2) (olds := U.take k) (news := x :: U.drop k) (b := ⟨g, 0, none⟩) (x := ⟨g2, 0, none⟩) 24 (by rw [List.length_take]; omega) (fun j u hj => by
      obtain ⟨hlt, rfl⟩ := map_at hj
      rw [List.length_take] at hlt
      exact hown2.cells (g := g) rfl j _ (by rw [List.getElem?_map, List.getElem?_eq_getElem (by omega), List.getElem_take]; rfl)) (by rw [List.length_cons, List.length_drop, hU]; omega) (o2.cells (g := g2) rfl) (by omega) (by omega) (Nat.le_trans hbase hB2.size)
  have e1 : k + (1 + (n - k)) = n + 1 := by omega
  rw [e1] at r2 hc3 o3
  exact ⟨_, W2, _, cap3, W3, r1, r2, hc3, o3, hB2.grown gr3 (Nat.le_trans hbase hB2.size) (by intro q hq; cases hq)⟩

/-- the first string -/
theorem rise_nil (W : World) (base : Nat) (x : Str) (hbase : base ≤ W.heap.size) :
    ∃ g3 cap3 W3, (Builtin.append_ #[24, 24] 24 #[.slice (some ⟨W.heap.size, 0, none⟩) 1 1, .slice none 0 0]).run Try.prog (W.alloc (.cells #[.string (bs x)] 9)) = .ok (.slice (some ⟨W.heap.size, 0, none⟩) 1 1) (W.alloc (.cells #[.string (bs x)] 9)) ∧
      (Builtin.append_ #[24, 24] 24 #[.slice none 0 0, .slice (some ⟨W.heap.size, 0, none⟩) 1 1]).run Try.prog (W.alloc (.cells #[.string (bs x)] 9)) = .ok (.slice (some ⟨g3, 0, none⟩) 1 cap3) W3 ∧
      1 ≤ cap3 ∧ W3.ownsRow base 9 1 (.slice (some ⟨g3, 0, none⟩) 1 cap3) 1 ([x].map encStr) ∧ Below base W W3 := by
  have hrow : (W.alloc (.cells #[.string (bs x)] 9)).ownsRow base 9 1 (.slice (some ⟨W.heap.size, 0, none⟩) 1 1) 1 ([x].map encStr) :=
    ⟨rfl, .inr ⟨W.heap.size, 1, #[.string (bs x)], rfl, hbase, heap_alloc_new W _, Nat.le_refl _, by unfold maxLen; omega, rfl, rfl⟩⟩
  have hB1 : Below base W (W.alloc (.cells #[.string (bs x)] 9)) := (Below.refl _ W).alloc hbase _
  obtain ⟨i0, hi, hz0, hz1, hz2⟩ := info_parts infoStr
  obtain ⟨v', w', r2, o3, gr3, hv⟩ := run_append_own (P := Try.prog) (W.alloc (.cells #[.string (bs x)] 9)) base 24 24 9 i0 (.string ByteArray.empty) 1 16 Try.underlying24 hi hz0 hz1 hz2 rfl (by omega) (.slice none 0 0) 0 [] (World.ownsRow_nil _ _ _ _) ⟨W.heap.size, 0, none⟩ 1 1 ([x].map encStr) rfl (hrow.cells (g := W.heap.size) rfl) (map_one _) (by unfold maxLen; omega) (by omega) (by simp; omega)
  rcases o3.2 with ⟨h, _⟩ | ⟨g3, cap3, cur, rfl, _, _, hc3, _⟩
  · exact absurd (hv.1 h).2 (by omega)
  · exact ⟨g3, cap3, w', app_none 24 hrow none 0, r2, hc3, o3, hB1.grown gr3 (by simp; omega) (by intro q hq; cases hq)⟩

/-- what the loop keeps: the strings so far -/
def RInv (z : List Str) (w : World) (i : Nat) (out : Value) (wr : World) : Prop :=
  ∃ U : List Str, Up U ∧ (∀ x, x ∈ U ↔ x ∈ z.take i) ∧ U.length ≤ i ∧ Below w.heap.size w wr ∧
    ((U = [] ∧ out = .slice none 0 0) ∨ (0 < U.length ∧ ∃ g cap, out = .slice (some ⟨g, 0, none⟩) U.length cap ∧ U.length ≤ cap ∧ wr.ownsRow w.heap.size 9 1 out U.length (U.map encStr)))

theorem take_succ_mem {z : List Str} {i : Nat} (hi : i < z.length) (x : Str) : x ∈ z.take (i + 1) ↔ x = z.getD i [] ∨ x ∈ z.take i := by
  rw [List.take_succ_eq_append_getElem hi, List.mem_append, List.mem_singleton, List.getD, List.getElem?_eq_getElem hi, or_comm]; rfl

set_option maxHeartbeats 4000000 in
set_option maxRecDepth 100000 in
theorem rising_row (z : List Str) (b off cap0 : Nat) (w : World) (hpos : 0 < z.length) (hn : z.length ≤ 4194304) (hlt0 : b < w.heap.size) (hsm : ∀ x ∈ z, x.length ≤ 9223372036854775807) (hc : ∀ k, k < z.length → w.cell? ⟨b, off + k, none⟩ = some (.string (bs (z.getD k [])))) :
    Calls Try.prog 33 #[.slice (some ⟨b, off, none⟩) z.length cap0] w fun e w' => ∃ v, e = .returned v ∧ RInv z w z.length v w' := by
  have HC := Lib.hid hc; clear hc
  have SM := Lib.hid hsm; clear hsm
  have TM : Hid (∀ i, i < z.length → ∀ x, x ∈ z.take (i + 1) ↔ x = z.getD i [] ∨ x ∈ z.take i) := fun i => take_succ_mem
  have MM : Hid (∀ i x, x ∈ z.take i → x.length ≤ 9223372036854775807) := fun i x hx => SM.out x (List.mem_of_mem_take hx)
  have HI : Hid (RInv z w 0 (.slice none 0 0) w) := ⟨[], List.Pairwise.nil, fun x => by simp, Nat.zero_le _, Below.refl _ _, .inl ⟨rfl, rfl⟩⟩
  generalize hL : z.length = L at *
  clear hL
  go_enter Try.func33, Try.ntmps33
  go_wp2_with fail
  go_loopw [3, 9] (fun out vi wr => ∃ i : Nat, i ≤ L ∧ vi = .int .i64 (i : Int) ∧ RInv z w i out wr) (fun _ vi _ => L - (intOf vi).toNat)
  case atStart => exact ⟨0, by omega, rfl, HI.out⟩
  case round =>
    obtain ⟨i, hi, rfl, hinv⟩ := hrel
    by_cases hi2 : i < L
    · obtain ⟨U, hU, hmem, hul, hbel, hout⟩ := hinv
      have HU := Lib.hid hU; clear hU
      have HM := Lib.hid hmem; clear hmem
      have HB := Lib.hid hbel; clear hbel
      have c1 : wr.cell? ⟨b, off + i, none⟩ = some (.string (bs (z.getD i []))) := by rw [HB.out.cell hlt0]; exact HC.out i hi2
      have TMi := Lib.hid (TM.out i hi2)
      generalize z.getD i [] = x at c1 TMi
      rcases hout with ⟨rfl, rfl⟩ | ⟨hp, g, cap, rfl, hcap, hown⟩
      · have IN : Hid (SIn wr (.slice none 0 0) []) := ⟨none, 0, rfl, Nat.le_refl _, by simp, fun y hy => absurd hy List.not_mem_nil, .inl rfl⟩
        obtain ⟨g3, cap3, W3, r1, r2, hc3, o3, b3⟩ := rise_nil wr.drew w.heap.size x HB.out.size
        have R1 : Hid ((Builtin.append_ #[24, 24] 24 #[.slice (some ⟨wr.heap.size, 0, none⟩) 1 1, .slice none 0 0]).run Try.prog (wr.drew.alloc (.cells #[.string (bs x)] 9)) = .ok (.slice (some ⟨wr.heap.size, 0, none⟩) 1 1) (wr.drew.alloc (.cells #[.string (bs x)] 9))) := r1
        have R2 : Hid ((Builtin.append_ #[24, 24] 24 #[.slice none 0 0, .slice (some ⟨wr.heap.size, 0, none⟩) 1 1]).run Try.prog (wr.drew.alloc (.cells #[.string (bs x)] 9)) = .ok (.slice (some ⟨g3, 0, none⟩) 1 cap3) W3) := r2
        have IV : Hid (RInv z w (i + 1) (.slice (some ⟨g3, 0, none⟩) 1 cap3) W3) := by
          refine ⟨[x], List.pairwise_singleton _ _, fun y => ?_, by simp, HB.out.drew.trans b3, .inr ⟨by simp, g3, cap3, rfl, hc3, o3⟩⟩
          rw [List.mem_singleton, TMi.out y, ← HM.out y]
          exact ⟨.inl, fun h => h.elim id (fun h => absurd h List.not_mem_nil)⟩
        clear r1 r2 hc3 o3 b3
        go_wp2_with fail
        refine (place_of IN.out x).mono ?_
        rintro e w' ⟨⟨j, hj, hx, rfl⟩ | ⟨hx, rfl⟩, rfl⟩
        · exact absurd hj (Nat.not_lt_zero _)
        · clear hx
          go_wp2_with fail
          go_loopw [6] (fun vk wq => vk = .int .i64 0 ∧ wq = w') (fun _ _ => 0)
          case atStart => exact ⟨rfl, rfl⟩
          case round =>
            obtain ⟨rfl, rfl⟩ := hrel
            go_wp2_with fail
            go_region_law (first
              | (refine step_append_run rfl (.tmp 36) (.tmp 39) 24 rfl (.slice (some ⟨wr.heap.size, 0, none⟩) 1 1) (.slice none 0 0) (by simp [Act.eval]) (by simp [Act.eval]) _ _ R1.out ?_)
              | (refine step_append_run rfl (.tmp 34) (.tmp 40) 24 rfl (.slice none 0 0) (.slice (some ⟨wr.heap.size, 0, none⟩) 1 1) (by simp [Act.eval]) (by simp [Act.eval]) _ _ R2.out ?_))
            simp only [Act.put, List.getElem_toArray, List.getElem_cons_succ, List.getElem_cons_zero, List.setIfInBounds_toArray, List.set_cons_succ, List.set_cons_zero]
            go_wp2
            go_roundw
            case rel => exact ⟨i + 1, by omega, by go_num, IV.out⟩
            case measure => simp [intOf]; omega
      · have IN : Hid (SIn wr (.slice (some ⟨g, 0, none⟩) U.length cap) U) := SIn.own hown (by omega) (fun y hy => MM.out i y ((HM.out y).1 hy))
        have HO := Lib.hid hown; clear hown
        go_wp2_with fail
        refine (place_of IN.out x).mono ?_
        rintro e w' ⟨⟨j, hj, hx, rfl⟩ | ⟨hx, rfl⟩, rfl⟩
        · have HX : Hid (x ∈ U) := hx ▸ getD_mem hj
          clear hj hx
          go_wp2
          go_roundw
          case rel =>
            refine ⟨i + 1, by omega, by go_num, U, HU.out, fun y => ?_, by omega, HB.out, .inr ⟨hp, g, cap, rfl, hcap, HO.out⟩⟩
            rw [TMi.out y, ← HM.out y]
            exact ⟨.inr, fun h => h.elim (fun e => e ▸ HX.out) id⟩
          case measure => simp [intOf]; omega
        · have HX := Lib.hid hx; clear hx
          have hulen : U.length ≤ 4194304 := by omega
          generalize eN : U.length = n at *
          have EN := Lib.hid eN; clear eN
          have CC : Hid (∀ t, t < n → w'.cell? ⟨g, t, none⟩ = some (.string (bs (U.getD t [])))) := fun t ht => by
            have hlt : t < U.length := by rw [EN.out]; exact ht
            have := HO.out.cells (g := g) rfl t (encStr U[t]) (by rw [List.getElem?_map, List.getElem?_eq_getElem hlt]; rfl)
            rw [addr0] at this
            rw [this, List.getD, List.getElem?_eq_getElem hlt]; rfl
          go_wp2_with fail
          go_loopw [6] (fun vk wq => ∃ k : Nat, k ≤ n ∧ vk = .int .i64 (k : Int) ∧ (∀ t, t < k → U.getD t [] < x) ∧ wq = w') (fun vk _ => n - (intOf vk).toNat)
          case atStart => exact ⟨0, by omega, rfl, fun _ h => absurd h (Nat.not_lt_zero _), rfl⟩
          case round =>
            obtain ⟨k, hk, rfl, hlo, rfl⟩ := hrel
            have LO := Lib.hid hlo; clear hlo
            by_cases hk2 : k < n
            · have c2 := CC.out k hk2
              by_cases hlt : U.getD k [] < x
              · have LT := Lib.hid hlt
                have t : Op.bytesLess (bs (U.getD k [])).toList (bs x).toList = true := by rw [bs_toList, bs_toList, bytesLess_eq]; exact decide_eq_true hlt
                clear hlt
                have LO2 : Hid (∀ t, t < k + 1 → U.getD t [] < x) := fun t ht => by
                  rcases Nat.lt_succ_iff_lt_or_eq.1 ht with h | h
                  · exact LO.out t h
                  · rw [h]; exact LT.out
                clear LT LO
                generalize bs (U.getD k []) = y at c2 t
                go_wp2
                go_roundw
                case rel => exact ⟨k + 1, by omega, by go_num, LO2.out, trivial⟩
                case measure => simp [intOf]; omega
              · have NL := Lib.hid hlt
                have t : Op.bytesLess (bs (U.getD k [])).toList (bs x).toList = false := by rw [bs_toList, bs_toList, bytesLess_eq]; exact decide_eq_false hlt
                clear hlt
                generalize bs (U.getD k []) = y at c2 t
                have INV : Hid (∀ g3 cap3 W3, n + 1 ≤ cap3 → World.ownsRow W3 w.heap.size 9 1 (.slice (some ⟨g3, 0, none⟩) (n + 1) cap3) (n + 1) ((ins k x U).map encStr) → Below w.heap.size wr.drew W3 → RInv z w (i + 1) (.slice (some ⟨g3, 0, none⟩) (n + 1) cap3) W3) := fun g3 cap3 W3 h1 h2 h3 => by
                  refine ⟨ins k x U, ins_up HU.out (fun t ht _ => LO.out t ht) (fun _ => NL.out) HX.out, fun y => ?_, by rw [ins_length, EN.out]; omega, HB.out.drew.trans h3, .inr ⟨by rw [ins_length]; omega, g3, cap3, by rw [ins_length, EN.out], by rw [ins_length, EN.out]; exact h1, by rw [ins_length, EN.out]; exact h2⟩⟩
                  rw [ins_mem, TMi.out y, HM.out y]
                have hA : (if cap = k then some (⟨g, 0, none⟩ : Addr) else some ⟨g, k, none⟩) = some ⟨g, k, none⟩ := by rw [if_neg (by omega)]
                obtain ⟨v2, W2, g3, cap3, W3, r1, r2, hc3, o3, b3⟩ := rise_some (W := wr.drew) (k := k) x (show wr.drew.ownsRow _ _ _ _ _ _ from HO.out) (by omega) hulen HB.out.size (some ⟨g, k, none⟩) (fun _ => rfl) (cap - k)
                have R1 : Hid ((Builtin.append_ #[24, 24] 24 #[.slice (some ⟨wr.heap.size, 0, none⟩) 1 1, .slice (some ⟨g, k, none⟩) (n - k) (cap - k)]).run Try.prog (wr.drew.alloc (.cells #[.string (bs x)] 9)) = .ok v2 W2) := r1
                have R2 := Lib.hid r2
                have IV := Lib.hid (INV.out g3 cap3 W3 hc3 o3 b3)
                clear r1 r2 hc3 o3 b3 INV
                have hp0 : (0 : Int) ≤ (k : Int) := by omega
                have hp1 : (k : Int) ≤ (n : Int) := by omega
                have hp2 : (k : Int) ≤ (cap : Int) := by omega
                have hic : k ≤ cap := by omega
                have hkn : k ≤ n := by omega
                go_wp2_with fail
                go_region_law (first
                  | (refine step_append_run rfl (.tmp 36) (.tmp 39) 24 rfl (.slice (some ⟨wr.heap.size, 0, none⟩) 1 1) (.slice (some ⟨g, k, none⟩) (n - k) (cap - k)) (by simp [Act.eval]) (by simp [Act.eval]) v2 W2 R1.out ?_)
                  | (refine step_append_run rfl (.tmp 34) (.tmp 40) 24 rfl (.slice (some ⟨g, 0, none⟩) k k) v2 (by simp [Act.eval]) (by simp [Act.eval]) (.slice (some ⟨g3, 0, none⟩) (n + 1) cap3) W3 R2.out ?_))
                simp only [Act.put, List.getElem_toArray, List.getElem_cons_succ, List.getElem_cons_zero, List.setIfInBounds_toArray, List.set_cons_succ, List.set_cons_zero]
                go_wp2
                go_roundw
                case rel => exact ⟨i + 1, by omega, by go_num, IV.out⟩
                case measure => simp [intOf]; omega
            · have hkn : k = n := by omega
              rw [hkn] at LO ⊢
              clear hkn hk hk2
              have INV : Hid (∀ g3 cap3 W3, n + 1 ≤ cap3 → World.ownsRow W3 w.heap.size 9 1 (.slice (some ⟨g3, 0, none⟩) (n + 1) cap3) (n + 1) ((ins n x U).map encStr) → Below w.heap.size wr.drew W3 → RInv z w (i + 1) (.slice (some ⟨g3, 0, none⟩) (n + 1) cap3) W3) := fun g3 cap3 W3 h1 h2 h3 => by
                refine ⟨ins n x U, ins_up HU.out (fun t ht _ => LO.out t ht) (fun h => by have := EN.out; omega) HX.out, fun y => ?_, by rw [ins_length, EN.out]; omega, HB.out.drew.trans h3, .inr ⟨by rw [ins_length]; omega, g3, cap3, by rw [ins_length, EN.out], by rw [ins_length, EN.out]; exact h1, by rw [ins_length, EN.out]; exact h2⟩⟩
                rw [ins_mem, TMi.out y, HM.out y]
              obtain ⟨A, hA⟩ : ∃ A, (if cap = n then some (⟨g, 0, none⟩ : Addr) else some ⟨g, n, none⟩) = some A := by split; exact ⟨_, rfl⟩; exact ⟨_, rfl⟩
              obtain ⟨v2, W2, g3, cap3, W3, r1, r2, hc3, o3, b3⟩ := rise_some (W := wr.drew) (k := n) x (show wr.drew.ownsRow _ _ _ _ _ _ from HO.out) (by omega) hulen HB.out.size (some A) (fun h => absurd h (Nat.lt_irrefl _)) (cap - n)
              rw [Nat.sub_self] at r1
              have R1 : Hid ((Builtin.append_ #[24, 24] 24 #[.slice (some ⟨wr.heap.size, 0, none⟩) 1 1, .slice (some A) 0 (cap - n)]).run Try.prog (wr.drew.alloc (.cells #[.string (bs x)] 9)) = .ok v2 W2) := r1
              have R2 := Lib.hid r2
              have IV := Lib.hid (INV.out g3 cap3 W3 hc3 o3 b3)
              clear r1 r2 hc3 o3 b3 INV
              have hp0 : (0 : Int) ≤ (n : Int) := by omega
              have hp2 : (n : Int) ≤ (cap : Int) := by omega
              have hic : n ≤ cap := by omega
              go_wp2_with fail
              go_region_law (first
                | (refine step_append_run rfl (.tmp 36) (.tmp 39) 24 rfl (.slice (some ⟨wr.heap.size, 0, none⟩) 1 1) (.slice (some A) 0 (cap - n)) (by simp [Act.eval]) (by simp [Act.eval]) v2 W2 R1.out ?_)
                | (refine step_append_run rfl (.tmp 34) (.tmp 40) 24 rfl (.slice (some ⟨g, 0, none⟩) n n) v2 (by simp [Act.eval]) (by simp [Act.eval]) (.slice (some ⟨g3, 0, none⟩) (n + 1) cap3) W3 R2.out ?_))
              simp only [Act.put, List.getElem_toArray, List.getElem_cons_succ, List.getElem_cons_zero, List.setIfInBounds_toArray, List.set_cons_succ, List.set_cons_zero]
              go_wp2
              go_roundw
              case rel => exact ⟨i + 1, by omega, by go_num, IV.out⟩
              case measure => simp [intOf]; omega
    · obtain rfl : i = L := by omega
      have H := Lib.hid hinv
      clear hinv
      go_wp2
      go_ret
      exact ⟨_, rfl, H.out⟩
theorem rising_none (a : Option Addr) (cap : Nat) (w : World) : Calls Try.prog 33 #[.slice a 0 cap] w fun e w' => e = .returned (.slice none 0 0) ∧ w' = w := by
  go_enter Try.func33, Try.ntmps33
  go_wp2_with fail
  go_rounds 1
  go_ret
  exact ⟨rfl, rfl⟩
theorem rising_of {w : World} {v : Value} {z : List Str} (h : SIn w v z) (hn : z.length ≤ 4194304) :
    Calls Try.prog 33 #[v] w fun e w' => ∃ v', e = .returned v' ∧ w'.ownsRow w.heap.size 9 1 v' (uniq z).length ((uniq z).map encStr) ∧ Below w.heap.size w w' := by
  rcases h.open with ⟨rfl, a, cap, rfl⟩ | ⟨hp, b, off, cap, rfl, _, hlt, hc⟩
  · have e0 : uniq [] = [] := uniq_self List.Pairwise.nil
    rw [e0]
    exact (rising_none a cap w).mono fun e w' k => ⟨_, k.1, World.ownsRow_nil _ _ _ _, k.2 ▸ Below.refl _ _⟩
  · refine (rising_row z b off cap w hp hn hlt h.small hc).mono ?_
    rintro e w' ⟨v', rfl, U, hU, hmem, _, hbel, hout⟩
    have e : U = uniq z := up_ext hU (uniq_up z) fun x => by rw [hmem x, List.take_length, uniq_mem]
    subst e
    refine ⟨v', rfl, ?_, hbel⟩
    rcases hout with ⟨h0, rfl⟩ | ⟨_, g, cap, rfl, _, hown⟩
    · rw [h0]; exact World.ownsRow_nil _ _ _ _
    · exact hown
end Go.Proofs.Ytihiohohocfchaa
