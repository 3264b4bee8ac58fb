/-
  The walk of bolterlaw07.ReaderMay.
  What the reference's Word tells of 2.5.
-/
import Derived.Test.YtpjllcengnolkaaGreatDoorMLgd
import Derived.Test.YtpjllcengnolkaaGreatDoorMLal
import Derived.Test.YtpjllcengnolkaaGreatDoorMDpar
import Derived.Test.YtpjllcengnolkaaGreatDoorMUtextb
import Derived.Test.YtpjllcengnolkaaGreatDoorMDsgn
set_option linter.unusedVariables false
set_option linter.unusedSimpArgs false
namespace Go.Proofs.YtpjllcengnolkaaGreatDoor
open Go.RowKit Go.Lib
variable {L : List UInt8} {A : Option Addr} {c : Nat}

set_option maxRecDepth 100000 in
set_option maxHeartbeats 4000000 in
theorem readerMay_c (hW25 : Word25) {w : World} (ho : Oct w.heap.size L A w) (hT : Tabs w) (hcap : L.length ≤ c) (hlen : L.length ≤ 140737488355328) :
    Calls Tryz.prog 3 #[.slice A L.length c] w fun e w' => e = .returned (.bool true) ∧ Below w.heap.size w w' := by
  have HA := alive7_c hW25 w hT
  obtain ⟨B, hB⟩ : ∃ B, w.heap.size = B := ⟨_, rfl⟩
  have HALL := Lib.hid (fun W (hW : Below B w W) => All_c (c := c) (w := W) (fun k x hk => by
    obtain ⟨g, off, e1, e2, e3⟩ := ho k x hk
    exact ⟨g, off, e1, by have := hW.size; omega, (hW.cell (p := ⟨g, off + k, none⟩) (by show g < _; omega)).trans e3⟩) (hT.below (hB ▸ hW)) hcap hlen)
  obtain ⟨ls, q, e0, hR⟩ : ∃ l q e, rAll mkObj L = (l, q, e) := ⟨_, _, _, rfl⟩
  obtain ⟨hok, hq, he0⟩ := rAll_may2 hR
  have HR := Lib.hid hR
  have HOK := Lib.hid hok
  have HB := Lib.hid hB
  rw [hB] at HA ⊢
  clear ho hT hR hok hB
  go_enter Tryz.func3, Tryz.ntmps3
  go_wp2_with fail
  refine HA.mono ?_
  rintro e w1 ⟨rfl, hb1⟩
  have HB1 := Lib.hid hb1
  clear HA hb1
  go_wp2_with fail
  refine (HALL.out w1 HB1.out).mono ?_
  rintro e w2 ⟨⟨LA, lc, rfl, hrd, hlc, h96⟩, hb2⟩
  rw [HR.out] at hrd hlc h96 ⊢
  dsimp only at hrd hlc h96 ⊢
  obtain ⟨ln, hln⟩ : ∃ ln, ls.length = ln := ⟨_, rfl⟩
  rw [hln] at hrd hlc h96 ⊢
  have HB2 := Lib.hid (HB1.out.trans (hb2.mono (by have := HB1.out.size; have := HB.out; omega)))
  have HRD := Lib.hid hrd
  clear hb2 hrd hln
  go_wp2_with fail
  go_loopw [6] (fun iv wr => ∃ j : Nat, iv = .int .i64 (j : Int) ∧ j ≤ ln ∧ Hid (Below w2.heap.size w2 wr)) (fun iv _ => ln - (RowKit.intOf iv).toNat)
  case atStart => exact ⟨0, rfl, Nat.zero_le _, Below.refl _ _⟩
  case round =>
    obtain ⟨j, rfl, hj, hbel⟩ := hrel
    by_cases hjn : j < ln
    · have hjlt : (j : Int) < (ln : Int) := by omega
      have hj0 : (0 : Int) ≤ (j : Int) := by omega
      have hjt : ((j : Int)).toNat = j := by omega
      have hjw : IntKind.i64.wrap ((j : Int) + 1) = (j : Int) + 1 := IntWalk.i64_in _ (by omega)
      obtain ⟨b, off, x2, cs2, rfl, hSb, hx2, h7, hcells, hvx⟩ := HRD.out.at_ hjn
      obtain ⟨k2, neg2, A2, n2, c2, e2, t2, LA2, ln2, lc2, KA2, kn2, kc2, rfl, -, -⟩ := hvx.seven
      have hcw : ∀ a, a < 7 → wr.cell? ⟨b, off + (j * 7 + a), none⟩ = _ := fun a ha => (hbel.out.cell (p := ⟨b, off + (j * 7 + a), none⟩) hSb.2).trans (hcells a ha)
      have d0 : wr.cell? ⟨b, off + j * 7, none⟩ = some (.int .i64 k2) := hcw 0 (by omega)
      have d1 : wr.cell? ⟨b, off + j * 7 + 1, none⟩ = some (.bool neg2) := hcw 1 (by omega)
      have d2 : wr.cell? ⟨b, off + j * 7 + 2, none⟩ = some (.slice A2 n2 c2) := hcw 2 (by omega)
      have d3 : wr.cell? ⟨b, off + j * 7 + 3, none⟩ = some (.int .i64 e2) := hcw 3 (by omega)
      have d4 : wr.cell? ⟨b, off + j * 7 + 4, none⟩ = some (.string t2) := hcw 4 (by omega)
      have d5 : wr.cell? ⟨b, off + j * 7 + 5, none⟩ = some (.slice LA2 ln2 lc2) := hcw 5 (by omega)
      have d6 : wr.cell? ⟨b, off + j * 7 + 6, none⟩ = some (.slice KA2 kn2 kc2) := hcw 6 (by omega)
      have HC := Lib.hid (rCheck5_c x2 _ _ wr (HOK.out x2 (List.mem_of_getElem? hx2)) (hvx.stay hbel.out (fun b h => h.2)) (fun b hb => Nat.lt_of_lt_of_le hb.2 hbel.out.size))
      have HBEL := Lib.hid hbel.out
      clear hcw hcells hx2 h7 hvx hbel
      go_wp2_with fail
      refine HC.out.mono ?_
      rintro e' w5 ⟨rfl, hb5⟩
      clear d0 d1 d2 d3 d4 d5 d6
      go_wp2_with fail
      go_roundw
      case rel => exact ⟨j + 1, by go_num, hjn, HBEL.out.trans (hb5.mono HBEL.out.size)⟩
      case measure => simp [RowKit.intOf]; omega
    · have hjn2 : ¬ (j : Int) < (ln : Int) := by omega
      have HBW := Lib.hid (HB2.out.trans (hbel.out.mono (by have := HB2.out.size; have := HB.out; omega)))
      clear hbel
      have hq0 : (0 : Int) ≤ (q : Int) := by omega
      have hq1 : (q : Int) ≤ (L.length : Int) := by omega
      by_cases hz : e0 = 0
      · subst hz
        have hqe : (q : Int) = (L.length : Int) := by have := he0 rfl; omega
        clear he0
        go_wp2_with (go_at_call 10; refine (lnum7_c _ _).mono ?_; rintro e w' ⟨rfl, rfl⟩)
        go_ret
        exact ⟨by first | rfl | simp, HBW.out⟩
      · have hz1 : ¬ (e0 : Int) = 0 := by omega
        clear he0
        go_wp2_with (go_at_call 10; refine (lnum7_c _ _).mono ?_; rintro e w' ⟨rfl, rfl⟩)
        go_ret
        exact ⟨by first | rfl | simp, HBW.out⟩
end Go.Proofs.YtpjllcengnolkaaGreatDoor

namespace Go.Proofs.YtpjllcengnolkaaGreatDoor
open Go.RowKit Go.Lib

set_option maxRecDepth 100000 in
set_option maxHeartbeats 4000000 in
theorem word25 : Word25 := fun S c A w hrd hS => by
  have hb0 : Below w.heap.size w (w.alloc (.cells #[.bool false, .slice A 1 c, .int .i64 (-1)] 31)) := (Below.refl _ _).alloc (Nat.le_refl _) _
  have hOf := Of_c (c := c) false (-1) (w.alloc (.cells #[.bool false, .slice A 1 c, .int .i64 (-1)] 31)) (hrd.below hb0 hS) (fun b h => by have := hS b h; simp; omega) (by decide)
  unfold dv nv at hOf
  rw [show val [25] = 25 from rfl] at hOf
  have HB0 := Lib.hid hb0
  have HOF := Lib.hid hOf
  clear hb0 hOf hrd hS
  go_enter Tryz.func16, Tryz.ntmps16
  go_wp2_with fail
  refine HOF.out.mono ?_
  rintro e w1 ⟨A1, n1, c1, ds, rfl, hr1, hd1, hv1, hn1, hb1⟩
  have hw1 := HB0.out.trans (hb1.mono (by simp))
  have hal : Below w1.heap.size w1 (w1.alloc (.cells #[.bool false, .slice A1 n1 c1, .int .i64 (-1)] 52)) := (Below.refl _ _).alloc (Nat.le_refl _) _
  have hw2 := hw1.trans (hal.mono hw1.size)
  have m2 := World.alloc_heap_new w1 (.cells #[.bool false, .slice A1 n1 c1, .int .i64 (-1)] 52)
  have r2 := hr1.rd.below hal (fun b h => h.2)
  have hWd := Word_c (c := c1) (w1.alloc (.cells #[.bool false, .slice A1 n1 c1, .int .i64 (-1)] 52)) r2 (fun b h => by have := h.2; simp; omega) hd1 (by omega)
  rw [hv1] at hWd
  have hlen := hr1.len
  have hn0 : n1 ≠ 0 := fun h => by
    have : ds = [] := List.eq_nil_of_length_eq_zero (by rw [hlen]; exact h)
    rw [this] at hv1
    exact absurd hv1 (by decide)
  have HWD := Lib.hid hWd
  have HM2 := Lib.hid m2
  have HW2 := Lib.hid hw2
  clear hWd m2 hw2 hw1 hal r2 hr1 hd1 hv1 hb1 hlen HOF
  have hn2 : ¬ (n1 : Int) = 0 := by omega
  have hn3 : ((n1 : Int) == 0) = false := by simpa using hn2
  go_wp2_with fail
  refine HWD.out.mono ?_
  rintro e w3 ⟨s, rfl, hs, hb3⟩
  have m3 := (hb3.block w1.heap.size (by simp)).trans HM2.out
  have q0 : w3.cell? ⟨w1.heap.size, 0, none⟩ = some (.bool false) := cell_at3 m3 rfl
  have q1 : w3.cell? ⟨w1.heap.size, 1, none⟩ = some (.slice A1 n1 c1) := cell_at3 m3 rfl
  have q2 : w3.cell? ⟨w1.heap.size, 2, none⟩ = some (.int .i64 (-1)) := cell_at3 m3 rfl
  have hse : s = ⟨#[50, 53]⟩ := octs_inj ((isDec_numO hs).trans (by kernel_rfl))
  subst hse
  have HW3 := Lib.hid (HW2.out.trans (hb3.mono HW2.out.size))
  clear hs hb3 m3 HWD HM2 HW2
  have e1 : (⟨#[50, 53]⟩ : ByteArray).extract 0 1 = ⟨#[50]⟩ := by kernel_rfl
  have e2 : (⟨#[50, 53]⟩ : ByteArray).extract 1 2 = ⟨#[53]⟩ := by kernel_rfl
  go_wp2_with fail
  go_quiet (fail)
  go_wp2_with fail
  go_ret
  exact ⟨by first | rfl | kernel_rfl, HW3.out.trans ⟨rfl, rfl, rfl, Nat.le_refl _, fun _ _ => rfl⟩⟩
end Go.Proofs.YtpjllcengnolkaaGreatDoor
