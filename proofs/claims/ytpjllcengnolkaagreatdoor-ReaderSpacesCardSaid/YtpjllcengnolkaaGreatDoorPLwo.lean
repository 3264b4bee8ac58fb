/-
  What the reference's Word tells of 2.5.
-/
import Derived.Test.YtpjllcengnolkaaGreatDoorPLapk
import Derived.Test.YtpjllcengnolkaaGreatDoorPDpar
import Derived.Test.YtpjllcengnolkaaGreatDoorPDrprt
import Derived.Test.YtpjllcengnolkaaGreatDoorPVord
set_option linter.unusedVariables false
set_option linter.unusedSimpArgs false
namespace Go.Proofs.YtpjllcengnolkaaGreatDoor
open Go.RowKit Go.Lib

set_option maxRecDepth 100000 in
set_option maxHeartbeats 4000000 in
theorem word25 : Word25 := fun S c A w hrd hS => by
  have hb0 : Below w.heap.size w (w.alloc (.cells #[.bool false, .slice A 1 c, .int .i64 (-1)] 31)) := (Below.refl _ _).alloc (Nat.le_refl _) _
  have hOf := Of_c (c := c) false (-1) (w.alloc (.cells #[.bool false, .slice A 1 c, .int .i64 (-1)] 31)) (hrd.below hb0 hS) (fun b h => by have := hS b h; simp; omega) (by decide)
  unfold dv nv at hOf
  rw [show val [25] = 25 from rfl] at hOf
  have HB0 := Lib.hid hb0
  have HOF := Lib.hid hOf
  clear hb0 hOf hrd hS
  go_enter Tryz.func16, Tryz.ntmps16
  go_wp2_with fail
  refine HOF.out.mono ?_
  rintro e w1 ⟨A1, n1, c1, ds, rfl, hr1, hd1, hv1, hn1, hb1⟩
  have hw1 := HB0.out.trans (hb1.mono (by simp))
  have hal : Below w1.heap.size w1 (w1.alloc (.cells #[.bool false, .slice A1 n1 c1, .int .i64 (-1)] 52)) := (Below.refl _ _).alloc (Nat.le_refl _) _
  have hw2 := hw1.trans (hal.mono hw1.size)
  have m2 := World.alloc_heap_new w1 (.cells #[.bool false, .slice A1 n1 c1, .int .i64 (-1)] 52)
  have r2 := hr1.rd.below hal (fun b h => h.2)
  have hWd := Word_c (c := c1) (w1.alloc (.cells #[.bool false, .slice A1 n1 c1, .int .i64 (-1)] 52)) r2 (fun b h => by have := h.2; simp; omega) hd1 (by omega)
  rw [hv1] at hWd
  have hlen := hr1.len
  have hn0 : n1 ≠ 0 := fun h => by
    have : ds = [] := List.eq_nil_of_length_eq_zero (by rw [hlen]; exact h)
    rw [this] at hv1
    exact absurd hv1 (by decide)
  have HWD := Lib.hid hWd
  have HM2 := Lib.hid m2
  have HW2 := Lib.hid hw2
  clear hWd m2 hw2 hw1 hal r2 hr1 hd1 hv1 hb1 hlen HOF
  have hn2 : ¬ (n1 : Int) = 0 := by omega
  have hn3 : ((n1 : Int) == 0) = false := by simpa using hn2
  go_wp2_with fail
  refine HWD.out.mono ?_
  rintro e w3 ⟨s, rfl, hs, hb3⟩
  have m3 := (hb3.block w1.heap.size (by simp)).trans HM2.out
  have q0 : w3.cell? ⟨w1.heap.size, 0, none⟩ = some (.bool false) := cell_at3 m3 rfl
  have q1 : w3.cell? ⟨w1.heap.size, 1, none⟩ = some (.slice A1 n1 c1) := cell_at3 m3 rfl
  have q2 : w3.cell? ⟨w1.heap.size, 2, none⟩ = some (.int .i64 (-1)) := cell_at3 m3 rfl
  have hse : s = ⟨#[50, 53]⟩ := octs_inj ((isDec_numO hs).trans (by kernel_rfl))
  subst hse
  have HW3 := Lib.hid (HW2.out.trans (hb3.mono HW2.out.size))
  clear hs hb3 m3 HWD HM2 HW2
  have e1 : (⟨#[50, 53]⟩ : ByteArray).extract 0 1 = ⟨#[50]⟩ := by kernel_rfl
  have e2 : (⟨#[50, 53]⟩ : ByteArray).extract 1 2 = ⟨#[53]⟩ := by kernel_rfl
  go_wp2_with fail
  go_quiet (fail)
  go_wp2_with fail
  go_ret
  exact ⟨by first | rfl | kernel_rfl, HW3.out.trans ⟨rfl, rfl, rfl, Nat.le_refl _, fun _ _ => rfl⟩⟩
end Go.Proofs.YtpjllcengnolkaaGreatDoor
