/-
  Contract of the law's alive: the page's examples.
-/
import Derived.Test.YtklpfgjnlheikaaGreatDoorDprt
import Derived.Test.YtklpfgjnlheikaaGreatDoorDadd
import Derived.Test.YtklpfgjnlheikaaGreatDoorDpar
set_option linter.unusedVariables false
set_option linter.unusedSimpArgs false
namespace Go.Proofs.YtklpfgjnlheikaaGreatDoor
open Go.RowKit

theorem of150 : fN (octs ⟨#[49, 46, 53, 48]⟩) = false ∧ fX (octs ⟨#[49, 46, 53, 48]⟩) = -1 ∧ fZ (octs ⟨#[49, 46, 53, 48]⟩) = [15] := by decide
theorem of05 : fN (octs ⟨#[48, 46, 53]⟩) = false ∧ fX (octs ⟨#[48, 46, 53]⟩) = -1 ∧ fZ (octs ⟨#[48, 46, 53]⟩) = [5] := by decide
theorem of1e30 : fN (octs ⟨#[49, 101, 51, 48]⟩) = false ∧ fX (octs ⟨#[49, 101, 51, 48]⟩) = 30 ∧ fZ (octs ⟨#[49, 101, 51, 48]⟩) = [1] := by decide
theorem add20 : stN false 20 (-1) = false ∧ stX 20 (-1) = 0 ∧ stE 20 (-1) = 0 ∧ stZ 20 (-1) = [2] := by decide
theorem prt2 : prt false (val [2]) 0 = [50] := by decide
theorem ito30 : itoO 30 = [51, 48] := by
  unfold itoO Lib.itoa
  rw [if_neg (by decide), show (30 : Int).toNat = 30 from rfl, Lib.decDigits, dif_neg (by decide), Lib.decDigits, dif_pos (by decide)]
  rfl
theorem prt30 : prt false (val [1]) 30 = [49, 101, 43, 51, 48] := by
  have h : numO (val [1]) = [49] := by decide
  unfold prt prtAt
  rw [h, if_neg (by decide), if_neg (by decide)]
  unfold powT
  rw [if_neg (by decide), if_neg (by decide), show ((([49] : List Nat).length : Int) + 30 - 1) = 30 from rfl, ito30]
  rfl

set_option maxRecDepth 100000 in
set_option maxHeartbeats 2000000 in
theorem alive2_c (w : World) : Calls Tryz.prog 31 #[] w fun e w' => e = .returned (.bool true) ∧ Below w.heap.size w w' := by
  go_enter Tryz.func31, Tryz.ntmps31
  go_wp2_with fail
  refine (LOf_c ⟨#[49, 46, 53, 48]⟩ w (by decide)).mono ?_
  rintro e w1 ⟨A1, n1, c1, rfl, hr1, hb1⟩
  obtain ⟨e1, e2, e3⟩ := of150
  rw [e1, e2]
  rw [e3] at hr1
  obtain rfl : 1 = n1 := hr1.len
  clear e1 e2 e3
  have hw1 : Below w.heap.size w w1 := hb1
  dsimp only [dv]
  go_wp2_with fail
  refine (LOf_c ⟨#[48, 46, 53]⟩ w1 (by decide)).mono ?_
  rintro e w2 ⟨A2, n2, c2, rfl, hr2, hb2⟩
  obtain ⟨e1, e2, e3⟩ := of05
  rw [e1, e2]
  rw [e3] at hr2
  obtain rfl : 1 = n2 := hr2.len
  clear e1 e2 e3
  have hw2 : Below w.heap.size w w2 := hw1.trans (hb2.mono hw1.size)
  have hr1b := hr1.below hb2 (Nat.le_refl _)
  dsimp only [dv]
  go_wp2_with fail
  have hadd := DAdd_c (c := c1) (d := c2) false false (-1) (-1) (-1) 0 0 w2 (hr1b.rd.more (S' := fun b => b < w2.heap.size) (fun b h => h.2)) (hr2.rd.more (S' := fun b => b < w2.heap.size) (fun b h => h.2)) (fun b h => h) (by decide) (by decide) (by decide) (by decide) (by decide) 20 false (by decide) (by decide)
  dsimp only [dv] at hadd
  refine hadd.mono ?_
  rintro e w3 ⟨_, hgood, hb3⟩
  obtain ⟨A3, n3, c3, rfl, hr3⟩ := hgood (by decide)
  obtain ⟨e1, e2, e3, e4⟩ := add20
  rw [e1, e2, e3]
  rw [e4] at hr3
  obtain rfl : 1 = n3 := hr3.len
  have hw3 : Below w.heap.size w w3 := hw2.trans (hb3.mono hw2.size)
  clear e1 e2 e3 e4 hadd hgood hr1 hr1b hr2
  go_wp2_with fail
  have hb3b : Below w3.heap.size w3 (w3.alloc (.cells #[.bool false, .slice A3 1 c3, .int .i64 0] 24)) := (Below.refl _ _).alloc (Nat.le_refl _) _
  have hr3b := hr3.below hb3b (Nat.le_refl _)
  have hw3b := hw3.trans (hb3b.mono hw3.size)
  generalize (w3.alloc (.cells #[.bool false, .slice A3 1 c3, .int .i64 0] 24)) = W3 at hr3b hw3b hb3b ⊢
  have hprt := DPrint_ok (c := c3) false 0 W3 hr3b.rd (fun b h => h.2) (by decide) (by decide) (ItoaOk.small (k := 0) (by omega))
  dsimp only [dv] at hprt
  refine hprt.mono ?_
  rintro e w4 ⟨t, rfl, ht, hb4⟩
  rw [prt2] at ht
  obtain rfl : t = ⟨#[50]⟩ := octs_inj ht
  have hw4 : Below w.heap.size w w4 := hw3b.trans (hb4.mono hw3b.size)
  clear ht hprt hr3 hr3b hb3b
  go_wp2_with fail
  refine (LOf_c ⟨#[49, 101, 51, 48]⟩ w4 (by decide)).mono ?_
  rintro e w5 ⟨A5, n5, c5, rfl, hr5, hb5⟩
  obtain ⟨e1, e2, e3⟩ := of1e30
  rw [e1, e2]
  rw [e3] at hr5
  obtain rfl : 1 = n5 := hr5.len
  clear e1 e2 e3
  have hw5 : Below w.heap.size w w5 := hw4.trans (hb5.mono hw4.size)
  dsimp only [dv]
  go_wp2_with fail
  have hprt := DPrint_ok (c := c5) false 30 w5 hr5.rd (fun b h => h.2) (by decide) (by decide) (ItoaOk.small (k := 30) (by omega))
  dsimp only [dv] at hprt
  refine hprt.mono ?_
  rintro e w6 ⟨t, rfl, ht, hb6⟩
  rw [prt30] at ht
  obtain rfl : t = ⟨#[49, 101, 43, 51, 48]⟩ := octs_inj ht
  have hw6 : Below w.heap.size w w6 := hw5.trans (hb6.mono hw5.size)
  clear ht hprt hr5
  go_wp2_with (go_at_call 21; refine (num2_c _ _).mono ?_; rintro e w' ⟨rfl, rfl⟩)
  go_ret
  exact ⟨rfl, hw6⟩
end Go.Proofs.YtklpfgjnlheikaaGreatDoor
