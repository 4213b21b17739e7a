/-
  slices.heapSortOrdered at uint64: it does what the library's own plain function says. No condition.
-/
import Derived.Test.YtejceacoopgjkaaUHeap
namespace Go.Proofs.Ytejceacoopgjkaa
open Go.ChangeShapes Go.WideShapes Go.ChangeAt Go.RowKit
open Go.Sort (swp PermIn SortedIn SWO siftDown heapBuild heapPop heapSort)

theorem siftDown_size (hi first : Nat) : ∀ n R (d : Array Bv), hi - R ≤ n → (siftDown ltU hi first R d).size = d.size
  | n, R, d, hn => by
    rw [siftDown]
    split
    · rfl
    · split
      · split
        · rfl
        · split
          · match n, hn with
            | n + 1, hn => rw [siftDown_size hi first n _ _ (by omega), swp_size]
            | 0, hn => omega
          · rfl
      · split
        · rfl
        · match n, hn with
          | n + 1, hn => rw [siftDown_size hi first n _ _ (by omega), swp_size]
          | 0, hn => omega
theorem heapBuild_size (hi first : Nat) : ∀ (k : Nat) (d : Array Bv), (heapBuild ltU hi first k d).size = d.size
  | 0, _ => rfl
  | k + 1, d => by show (heapBuild ltU hi first k _).size = _; rw [heapBuild_size hi first k, siftDown_size hi first _ _ _ (Nat.le_refl _)]

set_option maxHeartbeats 400000 in
theorem heap_any (base g cap a b : Nat) (w0 : World) (d : Array Bv) (w : World) (h : UR base g cap w0 d w) (hab : a ≤ b) (hb : b ≤ d.size) (hn : d.size ≤ 1000000000000000) :
    Calls Try.prog 55 #[.slice (some ⟨g, 0, none⟩) d.size cap, .int .i64 a, .int .i64 b] w fun e w' => e = .returned (.tuple #[]) ∧ UR base g cap w0 (heapSort ltU d a b) w' := by
  have H := Lib.hid h; clear h
  obtain ⟨hi, hhi⟩ : ∃ hi, hi = b - a := ⟨b - a, rfl⟩
  have e0 : (b : Int) - (a : Int) = (hi : Int) := by omega
  have HD : Hid (heapSort ltU d a b = heapPop ltU a hi (heapBuild ltU hi a ((hi - 1) / 2 + 1) d)) := by show heapPop _ _ _ _ = _; rw [← hhi]
  have hah : a + hi ≤ d.size := by omega
  clear hhi
  obtain ⟨i0, hi0, hq⟩ : ∃ i0 : Nat, i0 = (hi - 1) / 2 ∧ ((hi : Int) - 1).tdiv 2 = (i0 : Int) := by
    refine ⟨_, rfl, ?_⟩
    by_cases h0 : hi = 0
    · subst h0; rfl
    · rw [show (hi : Int) - 1 = ((hi - 1 : Nat) : Int) by omega]; exact (Int.ofNat_tdiv (hi - 1) 2).symm
  have HI0 : Hid (i0 ≤ hi) := by show _ ≤ _; omega
  have hI0 : i0 ≤ 1000000000000000 := by omega
  rw [← hi0] at HD
  clear hi0
  go_enter Try.func55, Try.ntmps55
  go_wp2_with fail
  go_loopw [9] (fun vi wr => ∃ (k : Nat) (dk : Array Bv), vi = .int .i64 ((k : Int) - 1) ∧ k ≤ i0 + 1 ∧ dk.size = d.size ∧ heapBuild ltU hi a k dk = heapBuild ltU hi a (i0 + 1) d ∧ UR base g cap w0 dk wr) (fun vi _ => (intOf vi + 1).toNat)
  case atStart => exact ⟨i0 + 1, d, by go_num, by omega, rfl, rfl, H.out⟩
  case round =>
    obtain ⟨k, dk, rfl, hk, hsz, he, hu⟩ := hrel
    have HE := Lib.hid he; clear he
    have HU := Lib.hid hu; clear hu
    cases k with
    | succ k =>
      have ek : (((k + 1 : Nat) : Int) - 1) = (k : Int) := by omega
      rw [ek]
      clear ek
      have HUS : Hid (UR base g cap w0 dk wr) := HU.out
      go_wp2_with fail
      have hs := sift_any base g cap k hi a w0 dk wr HUS.out (by have := HI0.out; omega) (by omega) (by omega)
      rw [hsz] at hs
      refine hs.mono ?_
      clear hs
      rintro e w' ⟨rfl, hu2⟩
      have HU2 := Lib.hid hu2; clear hu2
      go_wp2
      go_roundw
      case rel => exact ⟨k, siftDown ltU hi a k dk, by go_num, by omega, by rw [siftDown_size hi a _ _ _ (Nat.le_refl _)]; exact hsz, by rw [← HE.out]; rfl, HU2.out⟩
      case measure => simp [intOf]
    | zero =>
      have HE' : Hid (dk = heapBuild ltU hi a (i0 + 1) d) := HE.out
      have ez : (((0 : Nat) : Int) - 1) = -1 := by omega
      rw [ez]
      clear ez
      go_wp2_with fail
      go_loopw [10] (fun vi wr => ∃ (k : Nat) (dk : Array Bv), vi = .int .i64 ((k : Int) - 1) ∧ k ≤ hi ∧ dk.size = d.size ∧ heapPop ltU a k dk = heapPop ltU a hi (heapBuild ltU hi a (i0 + 1) d) ∧ UR base g cap w0 dk wr) (fun vi _ => (intOf vi + 1).toNat)
      case atStart => exact ⟨hi, dk, by go_num, Nat.le_refl _, hsz, by rw [HE'.out], HU.out⟩
      case round =>
        clear HU HE HE' hsz
        obtain ⟨k, dk, rfl, hk, hsz, he, hu⟩ := hrel
        have HE := Lib.hid he; clear he
        have HU := Lib.hid hu; clear hu
        cases k with
        | succ k =>
          have ek : (((k + 1 : Nat) : Int) - 1) = (k : Int) := by omega
          rw [ek]
          clear ek
          have c3 := HU.out.cell (i := a) (by omega)
          have c4 := HU.out.cell (i := a + k) (by omega)
          have f3 := HU.out.frozen a
          have f4 := HU.out.frozen (a + k)
          have y2 : (a : Int) + (k : Int) < (d.size : Int) := by omega
          have y4 : ((a : Int) + (k : Int)).toNat = a + k := by omega
          have y6 : (0 : Int) ≤ (a : Int) + (k : Int) := by omega
          have y1 : (a : Int) < (d.size : Int) := by omega
          obtain ⟨u2, f5⟩ : ∃ u, (wr.setCell ⟨g, a, none⟩ (.int .u64 ((dk[a + k]!).toNat : Int))).cell? ⟨g, a + k, none⟩ = some u := by
            by_cases hk0 : k = 0
            · subst hk0; refine ⟨.int .u64 ((dk[a + 0]!).toNat : Int), ?_⟩; rw [Nat.add_zero]; exact World.cell?_setCell_same _ _ _ c3
            · exact ⟨_, (World.cell?_setCell_other _ _ _ _ (by intro e; simp only [Addr.mk.injEq] at e; omega)).trans c4⟩
          have SW : Hid _ := HU.out.swap a (a + k)
          generalize ((dk[a]!).toNat : Int) = x at c3 SW
          generalize ((dk[a + k]!).toNat : Int) = y at c4 SW f5
          go_wp2_with fail
          go_region
          have HS2 : Hid _ := UR.drew SW.out
          clear c3 c4 f3 f4 f5 SW HU
          go_wp2_with fail
          generalize ((wr.setCell ⟨g, a, none⟩ (.int .u64 y)).setCell ⟨g, a + k, none⟩ (.int .u64 x)).drew = wz at HS2 ⊢
          have hs2 : (swp dk a (a + k)).size = d.size := by rw [swp_size]; exact hsz
          have hs := sift_any base g cap 0 k a w0 (swp dk a (a + k)) wz HS2.out (Nat.zero_le _) (by omega) (by omega)
          rw [hs2] at hs
          refine hs.mono ?_
          clear hs
          rintro e w' ⟨rfl, hu2⟩
          have HU2 := Lib.hid hu2; clear hu2
          go_wp2
          go_roundw
          case rel => exact ⟨k, siftDown ltU k a 0 (swp dk a (a + k)), by go_num, by omega, by rw [siftDown_size k a _ _ _ (Nat.le_refl _)]; exact hs2, by rw [← HE.out]; rfl, HU2.out⟩
          case measure => simp [intOf]
        | zero =>
          have HF : Hid (dk = heapSort ltU d a b) := by rw [HD.out, ← HE.out]; rfl
          have ez : (((0 : Nat) : Int) - 1) = -1 := by omega
          rw [ez]
          clear ez
          go_wp2
          go_end0
          exact ⟨rfl, by rw [← HF.out]; exact HU.out⟩
end Go.Proofs.Ytejceacoopgjkaa
