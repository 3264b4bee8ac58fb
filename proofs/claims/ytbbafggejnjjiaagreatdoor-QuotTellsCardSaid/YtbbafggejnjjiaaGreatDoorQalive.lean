/-
  Contracts of the law's alive (the page's examples), num, order.
-/
import Derived.Test.YtbbafggejnjjiaaGreatDoorQcall
import Derived.Test.YtbbafggejnjjiaaGreatDoorDrword
import Derived.Test.YtbbafggejnjjiaaGreatDoorDpar
set_option linter.unusedVariables false
set_option linter.unusedSimpArgs false
namespace Go.Proofs.YtbbafggejnjjiaaGreatDoor
open Go.RowKit

theorem num3_c (z : Int) (w : World) : Calls Tryz.prog 22 #[.int .i64 z] w fun e w' => e = .returned (.int .i64 z) ∧ w = w' := by
  go_enter Tryz.func22, Tryz.ntmps22
  go_wp2
  go_ret
  exact ⟨rfl, rfl⟩
theorem of1 : fN (octs ⟨#[49]⟩) = false ∧ fX (octs ⟨#[49]⟩) = 0 ∧ fZ (octs ⟨#[49]⟩) = [1] := by decide
theorem of3 : fN (octs ⟨#[51]⟩) = false ∧ fX (octs ⟨#[51]⟩) = 0 ∧ fZ (octs ⟨#[51]⟩) = [3] := by decide
theorem of4 : fN (octs ⟨#[52]⟩) = false ∧ fX (octs ⟨#[52]⟩) = 0 ∧ fZ (octs ⟨#[52]⟩) = [4] := by decide
theorem q13 : qZ 1 3 = 3333333333333333333333333333333333333333 := by kernel_rfl
theorem x13 : qX 1 3 0 0 = -40 := by kernel_rfl
theorem s4 : sqr 4 (nd 4) 0 = 4 * 10 ^ 78 := by kernel_rfl
theorem x4 : rtX 4 0 = -39 := by kernel_rfl
theorem e13 : opE 0 3333333333333333333333333333333333333333 (-40) = 0 := by kernel_rfl
theorem n13 : opN 0 false 3333333333333333333333333333333333333333 (-40) = false := by kernel_rfl
theorem xx13 : opX 0 3333333333333333333333333333333333333333 (-40) = -40 := by kernel_rfl
theorem e4 : opE 0 2000000000000000000000000000000000000000 (-39) = 0 := by kernel_rfl
theorem n4 : opN 0 false 2000000000000000000000000000000000000000 (-39) = false := by kernel_rfl
theorem xx4 : opX 0 2000000000000000000000000000000000000000 (-39) = 0 := by kernel_rfl
theorem z4 : opZ 0 2000000000000000000000000000000000000000 (-39) = [2] := by kernel_rfl
theorem k13 : okB false (opZ 0 3333333333333333333333333333333333333333 (-40)) (-40) = true := by kernel_rfl
theorem p13 : prt false (val (opZ 0 3333333333333333333333333333333333333333 (-40))) (-40) = [48, 46, 51, 51, 51, 51, 51, 51, 51, 51, 51, 51, 51, 51, 51, 51, 51, 51, 51, 51, 51, 51, 51, 51, 51, 51, 51, 51, 51, 51, 51, 51, 51, 51, 51, 51, 51, 51, 51, 51, 51, 51] := by kernel_rfl
theorem p4 : prt false (val [2]) 0 = [50] := by kernel_rfl
theorem rt4 {R : Nat} (h1 : R * R ≤ sqr 4 (nd 4) 0) (h2 : sqr 4 (nd 4) 0 < (R + 1) * (R + 1)) : R = 2000000000000000000000000000000000000000 := by
  rw [s4] at h1 h2
  rcases Nat.lt_trichotomy R 2000000000000000000000000000000000000000 with h | h | h
  · exfalso
    have := Nat.mul_le_mul (show R + 1 ≤ 2000000000000000000000000000000000000000 from h) (show R + 1 ≤ 2000000000000000000000000000000000000000 from h)
    omega
  · exact h
  · exfalso
    have := Nat.mul_le_mul (show 2000000000000000000000000000000000000001 ≤ R from h) (show 2000000000000000000000000000000000000001 ≤ R from h)
    omega
set_option maxRecDepth 100000 in
set_option maxHeartbeats 4000000 in
theorem alive3_c (w : World) : Calls Tryz.prog 29 #[] w fun e w' => e = .returned (.bool true) ∧ Below w.heap.size w w' := by
  go_enter Tryz.func29, Tryz.ntmps29
  go_wp2_with fail
  refine (LOf_c ⟨#[49]⟩ w (by decide)).mono ?_
  rintro e w1 ⟨A1, n1, c1, rfl, hr1, hb1⟩
  obtain ⟨e1, e2, e3⟩ := of1
  rw [e1, e2]
  rw [e3] at hr1
  obtain rfl : 1 = n1 := hr1.len
  clear e1 e2 e3
  have hw1 : Below w.heap.size w w1 := hb1
  dsimp only [dv]
  go_wp2_with fail
  refine (LOf_c ⟨#[51]⟩ w1 (by decide)).mono ?_
  rintro e w2 ⟨A2, n2, c2, rfl, hr2, hb2⟩
  obtain ⟨e1, e2, e3⟩ := of3
  rw [e1, e2]
  rw [e3] at hr2
  obtain rfl : 1 = n2 := hr2.len
  clear e1 e2 e3
  have hw2 : Below w.heap.size w w2 := hw1.trans (hb2.mono hw1.size)
  have hr1b := hr1.below hb2 (Nat.le_refl _)
  dsimp only [dv]
  go_wp2_with fail
  have hdiv := QDiv_c (c := c1) (d := c2) false false 0 0 w2 (hr1b.rd.more (S' := fun b => b < w2.heap.size) (fun b h => h.2)) (hr2.rd.more (S' := fun b => b < w2.heap.size) (fun b h => h.2)) (fun b h => h) (by decide) (by decide)
  dsimp only [dv] at hdiv
  refine hdiv.mono ?_
  rintro e w3 ⟨⟨E0, s0, Z0, lo0, hP, A3, n3, c3, rfl, hr3⟩, hb3⟩
  have hE2 : okE2 false [1] 0 false [3] 0 = 0 := by decide
  obtain ⟨hE0, hs0, hZ0, hlo0⟩ : E0 = 0 ∧ s0 = false ∧ Z0 = 3333333333333333333333333333333333333333 ∧ lo0 = -40 := by
    rcases hP with ⟨h, _⟩ | ⟨_, ⟨h, _⟩ | ⟨_, h1, h2, h3, h4⟩⟩
    · exact absurd hE2 h
    · exact absurd h (by decide)
    · exact ⟨h1, h2, h3.trans q13, h4.trans x13⟩
  subst hE0 hs0 hZ0 hlo0
  rw [e13, n13, xx13]
  have hk3 := Lib.hid k13
  have hp3 := Lib.hid p13
  clear hP hE2 hr1b hr1 hr2
  generalize opZ 0 3333333333333333333333333333333333333333 (-40) = Z3 at *
  have hw3 : Below w.heap.size w w3 := hw2.trans (hb3.mono hw2.size)
  dsimp only [dv]
  go_wp2_with fail
  have m3 := World.alloc_heap_new w3 (.cells #[.bool false, .slice A3 n3 c3, .int .i64 (-40)] 24)
  have hb3b : Below w3.heap.size w3 (w3.alloc (.cells #[.bool false, .slice A3 n3 c3, .int .i64 (-40)] 24)) := (Below.refl _ _).alloc (Nat.le_refl _) _
  have hr3b := hr3.below hb3b (Nat.le_refl _)
  have hw3b := hw3.trans (hb3b.mono hw3.size)
  generalize (w3.alloc (.cells #[.bool false, .slice A3 n3 c3, .int .i64 (-40)] 24)) = W3 at hr3b hw3b m3 ⊢
  refine (LOf_c ⟨#[52]⟩ W3 (by decide)).mono ?_
  rintro e w4 ⟨A4, n4, c4, rfl, hr4, hb4⟩
  obtain ⟨e1, e2, e3⟩ := of4
  rw [e1, e2]
  rw [e3] at hr4
  obtain rfl : 1 = n4 := hr4.len
  clear e1 e2 e3
  have m4 := heldz hb4 m3
  have hw4 := hw3b.trans (hb4.mono hw3b.size)
  have hr3c := hr3b.below hb4 (Nat.le_refl _)
  dsimp only [dv]
  go_wp2_with fail
  have hsq := QSqrt_c (c := c4) false 0 w4 (hr4.rd.more (S' := fun b => b < w4.heap.size) (fun b h => h.2)) (fun b h => h) (by decide)
  dsimp only [dv] at hsq
  refine hsq.mono ?_
  rintro e w5 ⟨⟨E0, s0, Z0, lo0, hP, A5, n5, c5, rfl, hr5⟩, hb5⟩
  have hE2 : okE false [4] 0 = 0 := by decide
  obtain ⟨hE0, hs0, hZ0, hlo0⟩ : E0 = 0 ∧ s0 = false ∧ Z0 = 2000000000000000000000000000000000000000 ∧ lo0 = -39 := by
    rcases hP with ⟨h, _⟩ | ⟨_, ⟨h, _⟩ | ⟨_, h1, h2, h3, h4, h5⟩⟩
    · exact absurd hE2 h
    · cases h
    · exact ⟨h1, h2, rt4 h3 h4, h5.trans x4⟩
  subst hE0 hs0 hZ0 hlo0
  rw [z4] at hr5
  rw [e4, n4, xx4]
  obtain rfl : 1 = n5 := hr5.len
  clear hP hE2 hr4
  have m5 := heldz hb5 m4
  have hw5 := hw4.trans (hb5.mono hw4.size)
  have hr3d := hr3c.below hb5 (Nat.le_refl _)
  dsimp only [dv]
  go_wp2_with fail
  have m6 := heldA (.cells #[.bool false, .slice A5 1 c5, .int .i64 0] 24) m5
  have m7 := World.alloc_heap_new w5 (.cells #[.bool false, .slice A5 1 c5, .int .i64 0] 24)
  have hb5b : Below w5.heap.size w5 (w5.alloc (.cells #[.bool false, .slice A5 1 c5, .int .i64 0] 24)) := (Below.refl _ _).alloc (Nat.le_refl _) _
  have hr5b := hr5.below hb5b (Nat.le_refl _)
  have hr3e := hr3d.below hb5b (Nat.le_refl _)
  have hw5b := hw5.trans (hb5b.mono hw5.size)
  generalize (w5.alloc (.cells #[.bool false, .slice A5 1 c5, .int .i64 0] 24)) = W5 at hr5b hr3e hw5b m6 m7 ⊢
  have hn3 : n3 ≤ 9223372036854775807 := by have h1 := hr3.n_le; unfold maxLen at h1; omega
  obtain ⟨x0, x1, x2⟩ := box3_of m6
  obtain ⟨y0, y1, y2⟩ := box3_of m7
  clear hdiv hsq m3 m4 m5 hb3b hb5b hr3b hr3c hr3d hr5 hw5 hw3 hw4 hw3b
  go_wp2_with (go_at_call 22; refine (num3_c _ _).mono ?_; rintro e w' ⟨rfl, rfl⟩)
  have hwd := RWord_c (c := c3) false (-40) W5 (hr3e.rd.more (S' := fun b => b < W5.heap.size) (fun b h => h.2)) (fun b h => h) hn3 hk3.out
  dsimp only [dv] at hwd
  refine hwd.mono ?_
  rintro e w6 ⟨t, rfl, ht, hb6⟩
  rw [hp3.out] at ht
  obtain rfl : t = ⟨#[48, 46, 51, 51, 51, 51, 51, 51, 51, 51, 51, 51, 51, 51, 51, 51, 51, 51, 51, 51, 51, 51, 51, 51, 51, 51, 51, 51, 51, 51, 51, 51, 51, 51, 51, 51, 51, 51, 51, 51, 51, 51]⟩ := octs_inj ht
  have m8 := heldz hb6 m7
  have hw6 := hw5b.trans (hb6.mono hw5b.size)
  have hr5c := hr5b.below hb6 (Nat.le_refl _)
  obtain ⟨y0, y1, y2⟩ := box3_of m8
  clear hwd ht m6 m7 x0 x1 x2
  go_wp2_with fail
  have hwd := RWord_c (c := c5) false 0 w6 (hr5c.rd.more (S' := fun b => b < w6.heap.size) (fun b h => h.2)) (fun b h => h) (by decide) (by decide)
  dsimp only [dv] at hwd
  refine hwd.mono ?_
  rintro e w7 ⟨t, rfl, ht, hb7⟩
  rw [p4] at ht
  obtain rfl : t = ⟨#[50]⟩ := octs_inj ht
  go_wp2
  go_ret
  exact ⟨by simp, hw6.trans (hb7.mono hw6.size)⟩
end Go.Proofs.YtbbafggejnjjiaaGreatDoor
