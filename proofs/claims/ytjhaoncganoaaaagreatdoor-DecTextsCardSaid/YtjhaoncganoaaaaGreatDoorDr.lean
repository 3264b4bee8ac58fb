/-
  Contracts of the law's num and Of (of a text).
-/
import Derived.Test.YtjhaoncganoaaaaGreatDoorDrp
set_option linter.unusedVariables false
set_option linter.unusedSimpArgs false
namespace Go.Proofs.YtjhaoncganoaaaaGreatDoor
open Go.RowKit

theorem num2_c (z : Int) (w : World) : Calls Tryz.prog 18 #[.int .i64 z] w fun e w' => e = .returned (.int .i64 z) ∧ w = w' := by
  go_enter Tryz.func18, Tryz.ntmps18
  go_wp2
  go_ret
  exact ⟨rfl, rfl⟩

set_option maxRecDepth 100000 in
set_option maxHeartbeats 1000000 in
theorem LOf_c (s : ByteArray) (w : World) (hs : s.size ≤ 9223372036854775807) :
    Calls Tryz.prog 56 #[.string s] w fun e w' => ∃ A n c, e = .returned (dv (fN (octs s)) A n c (fX (octs s))) ∧ Res w' w.heap.size A n c (fZ (octs s)) ∧ Below w.heap.size w w' := by
  have hb0 : ∀ o, Below w.heap.size w (w.alloc o) := fun o => (Below.refl _ w).alloc (Nat.le_refl _) o
  generalize hgN : fN (octs s) = N
  generalize hgX : fX (octs s) = X
  generalize hgZ : fZ (octs s) = Z
  have h1 := fun W => rDParse_c s W hs
  rw [hgN, hgX, hgZ] at h1
  generalize fE (octs s) = E at h1
  clear hgN hgX hgZ
  unfold dv at h1 ⊢
  have H1 := Lib.hid h1
  clear h1
  go_enter Tryz.func56, Tryz.ntmps56
  go_wp2_with fail
  have m0 := one_new w (.cells #[.bool false, .slice none 0 0, .int .i64 0] 24)
  have hW := hb0 (.cells #[.bool false, .slice none 0 0, .int .i64 0] 24)
  have hsz : (w.alloc (.cells #[.bool false, .slice none 0 0, .int .i64 0] 24)).heap.size = w.heap.size + 1 := by simp
  generalize (w.alloc (.cells #[.bool false, .slice none 0 0, .int .i64 0] 24)) = W at m0 hW hsz ⊢
  refine (H1.out W).mono ?_
  rintro e w1 ⟨A, n, c, rfl, hr, hb1⟩
  have q0 := held hb1 (by omega) m0
  have hs1 := hb1.size
  have q1 : (w1.alloc (.cells #[.bool N, .slice A n c, .int .i64 X] 24)).heap[w.heap.size]? = some (.cells #[.bool false, .slice none 0 0, .int .i64 0] 24) := (Below.heap_alloc _ _ _ (by omega)).trans q0
  have y0 : (w1.alloc (.cells #[.bool N, .slice A n c, .int .i64 X] 24)).cell? ⟨w.heap.size, 0, none⟩ = some (.bool false) := cell_of q1 rfl
  have y1 : (w1.alloc (.cells #[.bool N, .slice A n c, .int .i64 X] 24)).cell? ⟨w.heap.size, 1, none⟩ = some (.slice none 0 0) := cell_of q1 rfl
  have y2 : (w1.alloc (.cells #[.bool N, .slice A n c, .int .i64 X] 24)).cell? ⟨w.heap.size, 2, none⟩ = some (.int .i64 0) := cell_of q1 rfl
  have f0 := frozen_of 0 q1
  have f1 := frozen_of 1 q1
  have f2 := frozen_of 2 q1
  have hlt : w.heap.size < W.heap.size := by omega
  have hr2 := hr.below (B := w1.heap.size) ((Below.refl _ w1).alloc (Nat.le_refl _) (.cells #[.bool N, .slice A n c, .int .i64 X] 24)) (Nat.le_refl _)
  have hw2 : Below w.heap.size w (w1.alloc (.cells #[.bool N, .slice A n c, .int .i64 X] 24)) := (hW.trans (hb1.mono (by omega))).alloc (by omega) _
  go_wp2
  refine bodyPost_ret (v := .agg #[.bool N, .slice A n c, .int .i64 X]) (by simp [results, Tryz.results56, go_sem, y0, y1, y2]) rfl ?_
  exact ⟨A, n, c, rfl, (((hr2.setOther (p := ⟨w.heap.size, 0, none⟩) hlt _).setOther (p := ⟨w.heap.size, 1, none⟩) hlt _).setOther (p := ⟨w.heap.size, 2, none⟩) hlt _).more (by omega),
    ((hw2.setCell (p := ⟨w.heap.size, 0, none⟩) (by simp) _).setCell (p := ⟨w.heap.size, 1, none⟩) (by simp) _).setCell (p := ⟨w.heap.size, 2, none⟩) (by simp) _⟩
end Go.Proofs.YtjhaoncganoaaaaGreatDoor
