/-
  The walk of the law QuotRoots: it returns true, whatever the decimal reads as. Written by gen_roots.py.
-/
import Derived.Test.YtbbafggejnjjiaaGreatDoorQlaw
import Derived.Test.YtbbafggejnjjiaaGreatDoorQord
import Derived.Test.YtbbafggejnjjiaaGreatDoorDrmul
set_option linter.unusedVariables false
set_option linter.unusedSimpArgs false
namespace Go.Proofs.YtbbafggejnjjiaaGreatDoor
open Go.RowKit

set_option maxRecDepth 100000 in
set_option maxHeartbeats 8000000 in
theorem QuotRoots_c {S : Nat → Prop} {n c : Nat} {A : Option Addr} {xs : List Nat} (na : Bool) (e1 : Int) (w : World) (ha : Rd w S A n xs)
    (hS : ∀ b, S b → b < w.heap.size) (hn : n ≤ 9223372036854775807) :
    Calls Tryz.prog 8 #[dv na A n c e1] w fun e w' => e = .returned (.bool true) ∧ Below w.heap.size w w' := by
  have up : ∀ {V : World}, Below w.heap.size w V → ∀ b, b < w.heap.size → b < V.heap.size := fun h b hb => by have := h.size; omega
  have hW : Below w.heap.size w (w.alloc (.cells #[.bool na, .slice A n c, .int .i64 e1] 24)) := (Below.refl w.heap.size w).alloc (Nat.le_refl _) _
  have ma := World.alloc_heap_new w (.cells #[.bool na, .slice A n c, .int .i64 e1] 24)
  unfold dv
  go_enter Tryz.func8, Tryz.ntmps8
  go_wp2_with fail
  generalize (w.alloc (.cells #[.bool na, .slice A n c, .int .i64 e1] 24)) = W at ma hW ⊢
  refine (alive3_c W).mono ?_
  rintro e w0 ⟨rfl, hb0⟩
  have ma := heldz hb0 ma
  have hB := hW.trans (hb0.mono hW.size)
  have ra : Rd w0 (fun b => b < w0.heap.size) A n xs := (ha.below hB hS).more (fun b h => up hB b (hS b h))
  clear hW hb0 ha hS up
  obtain ⟨xa0, xa1, xa2⟩ := box3_of ma
  go_wp2_with fail
  clear xa0 xa1 xa2
  have H := QSqrt_c (c := c) na e1 w0 ra (fun b h => h) hn
  (try unfold dv at H)
  (try unfold nv at H)
  refine H.mono ?_
  rintro e w1 ⟨⟨E0, s0, Z0, lo0, hP, ht⟩, hb0⟩
  clear H
  have ma := heldz hb0 ma
  have ra := ra.step hb0
  have hB := hB.trans (hb0.mono hB.size)
  clear hb0
  obtain ⟨A1, n1, c1, N1, X1, L1, E1, rfl, r1, hn1, o1, hE1, hL1, hv1⟩ := told_ok ht (fun h0 => by
    rcases hP with ⟨h1, h2⟩ | ⟨h1, ⟨_, h2⟩ | ⟨_, _, _, _, _, h2⟩⟩
    · exact absurd (h2.symm.trans h0) h1
    · rw [h2] at h0; exact absurd h0 (by decide)
    · rcases okE_cases na xs e1 with ⟨_, k1⟩ | ⟨h3, _⟩
      · obtain ⟨_, _, a3, a4, _, _⟩ := okB_true ra.l32 k1
        have := nd_le (k := 300) (by omega) a3
        rw [h2]; unfold rtX rsh; split <;> omega
      · rw [h3] at h1; exact absurd h1 (by decide))
  clear ht
  dsimp only [dv]
  go_upto_region 4 with fail
  have hal : Below w1.heap.size w1 (w1.alloc (.cells #[.bool N1, .slice A1 n1 c1, .int .i64 X1] 24)) := (Below.refl _ _).alloc (Nat.le_refl _) _
  have ma := heldz hal ma
  have ra := ra.step hal
  have r1 := r1.step hal
  have m1 := World.alloc_heap_new w1 (.cells #[.bool N1, .slice A1 n1 c1, .int .i64 X1] 24)
  have hB := hB.trans (hal.mono hB.size)
  clear hal
  generalize w1.alloc (.cells #[.bool N1, .slice A1 n1 c1, .int .i64 X1] 24) = w2 at ma m1 ra r1  hB ⊢
  have hl1 := r1.len
  by_cases hbad : E1 ≠ 0 ∨ n1 = 0
  · have hz : n1 = 0 := by
      rcases hbad with h | h
      · rw [← hl1, hL1 h]; rfl
      · exact h
    subst hz
    obtain ⟨x10, x11, x12⟩ := box3_of m1
    clear hP hE1 hL1 hv1
    by_cases hE : E1 = 0
    · subst hE
      go_wp2_with (go_at_call 22; refine (num3_c _ _).mono ?_; rintro e w' ⟨rfl, rfl⟩)
      go_ret
      exact ⟨rfl, hB⟩
    · have hEb : (((E1 : Nat) : Int) != 0) = true := by rw [bne_iff_ne]; omega
      clear hE hbad
      go_wp2_with (go_at_call 22; refine (num3_c _ _).mono ?_; rintro e w' ⟨rfl, rfl⟩)
      go_ret
      exact ⟨rfl, hB⟩
  · have hE0 : E1 = 0 := by omega
    have hn0 : n1 ≠ 0 := by omega
    subst hE0
    obtain ⟨hq, hqX⟩ := hv1 rfl
    have hE00 : E0 = 0 := by
      rcases Nat.eq_zero_or_pos E0 with h | h
      · exact h
      · exact absurd rfl (hE1 (by omega))
    have hall : okB na xs e1 = true ∧ na = false ∧ s0 = false ∧ Z0 * Z0 ≤ sqr (val xs) (nd (val xs)) e1 ∧ sqr (val xs) (nd (val xs)) e1 < (Z0 + 1) * (Z0 + 1) ∧ lo0 = rtX (val xs) e1 := by
      rcases hP with ⟨h1, h2⟩ | ⟨h1, ⟨_, h2⟩ | ⟨h3, _, h4, h5, h6, h7⟩⟩
      · exact absurd (h2.symm.trans hE00) h1
      · rw [h2] at hE00; exact absurd hE00 (by decide)
      · rcases okE_cases na xs e1 with ⟨_, k1⟩ | ⟨h3, _⟩
        · exact ⟨k1, h3, h4, h5, h6, h7⟩
        · rw [h3] at h1; exact absurd h1 (by decide)
    obtain ⟨k1, rfl, rfl, hR1, hR2, rfl⟩ := hall
    clear hP hE1 hL1 hv1 hE00
    obtain ⟨_, a2, a3, a4, _, _⟩ := okB_true ra.l32 k1
    obtain ⟨q1, q2, q3, q4, _, _⟩ := okB_true r1.l32 o1
    have hZp : 0 < Z0 := by
      rcases Nat.eq_zero_or_pos Z0 with h | h
      · exfalso
        rw [h, sg_zero, Int.zero_mul, sv_zero_iff] at hq
        rw [q1.val_zero hq] at hl1
        exact hn0 hl1.symm
      · exact h
    obtain ⟨_, t2, t3⟩ := root_near hR1 hR2 a3 a4
    have hx0 : 0 < val xs := by
      rcases Nat.eq_zero_or_pos (val xs) with h | h
      · exfalso
        obtain ⟨t1, _, _⟩ := root_near hR1 hR2 a3 a4
        rw [h, Nat.zero_mul] at t1
        have := Nat.mul_pos (Nat.mul_pos hZp hZp) (sp_pos (rtX 0 e1 + rtX 0 e1))
        omega
      · exact h
    obtain ⟨t4, t5⟩ := t3 hx0
    have hq10 : val L1 % 10 ≠ 0 := by
      rcases okB_cases r1.l32 o1 with ⟨h, _, _⟩ | ⟨_, h⟩
      · rw [h] at hl1; exact absurd hl1.symm hn0
      · exact h
    have hqX := hqX hZp
    have hn1256 : n1 ≤ 256 := by rw [← hl1]; exact q2
    have hnd := nd_le (k := 300) (by omega) a3
    have hlen := cf_len (sg_val hq).1 hqX (by unfold rtX rsh; split <;> omega) t4 (by omega) hq10
    have hnb1 : ((n1 : Int) == 0) = false := by rw [beq_eq_false_iff_ne]; omega
    have HQ := Lib.hid hq
    have HQX := Lib.hid hqX
    have HLEN := Lib.hid hlen
    have HR := Lib.hid (And.intro hR1 hR2)
    have HX0 := Lib.hid hx0
    have HQ10 := Lib.hid hq10
    have HAB := Lib.hid (And.intro a3 (And.intro a4 q4))
    clear hq hqX hlen hx0 hq10 hZp a2 a3 a4 q1 q2 q3 hl1 hbad hR1 hR2 t2 t3 t4 t5 hnd
    obtain ⟨q5, q6⟩ := q4
    obtain ⟨x10, x11, x12⟩ := box3_of m1
    go_wp2_with (go_at_call 22; refine (num3_c _ _).mono ?_; rintro e w' ⟨rfl, rfl⟩)
    clear x10 x11 x12
    have H := Of_c (c := c1) N1 X1 w2 r1 (fun b h => h) hn1256
    (try unfold dv at H)
    (try unfold nv at H)
    refine H.mono ?_
    rintro e w3 ⟨A2, n2, c2, ds, rfl, rz, d2, v2, l2, hb0⟩
    clear H
    have ma := heldz hb0 ma
    have m1 := heldz hb0 m1
    have ra := ra.step hb0
    have r1 := r1.step hb0
    have hB := hB.trans (hb0.mono hB.size)
    clear hb0
    have HL2 := Lib.hid (show n2 = (dOf (val L1)).length by rw [← v2, ← dOf_len_eqq d2]; exact rz.len.symm)
    clear rz d2 v2
    skip
    go_upto_region 7 with fail
    have hal : Below w3.heap.size w3 (w3.alloc (.cells #[.bool N1, .slice A2 n2 c2, .int .i64 X1] 41)) := (Below.refl _ _).alloc (Nat.le_refl _) _
    have ma := heldz hal ma
    have m1 := heldz hal m1
    have ra := ra.step hal
    have r1 := r1.step hal
    have mz := World.alloc_heap_new w3 (.cells #[.bool N1, .slice A2 n2 c2, .int .i64 X1] 41)
    have hB := hB.trans (hal.mono hB.size)
    clear hal
    generalize w3.alloc (.cells #[.bool N1, .slice A2 n2 c2, .int .i64 X1] 41) = w4 at ma m1 mz ra r1  hB ⊢
    have hle : (n2 : Int) ≤ 40 := by have := HLEN.out.1; have := HL2.out; omega
    obtain ⟨PL, hPL⟩ : ∃ q, X1 - (40 - (n2 : Int)) = q := ⟨_, rfl⟩
    have HPL := Lib.hid (show PL = X1 - (40 - ((dOf (val L1)).length : Int)) by rw [← hPL, HL2.out])
    have hpl : -1040 ≤ PL ∧ PL ≤ 1040 := by have := HLEN.out.1; have := HPL.out; omega
    obtain ⟨hpl1, hpl2⟩ := hpl
    have hal : Below w4.heap.size w4 (w4.alloc (.cells #[.int .i64 1] 3)) := (Below.refl _ _).alloc (Nat.le_refl _) _
    have hone : RdI (w4.alloc (.cells #[.int .i64 1] 3)) (fun b => b < (w4.alloc (.cells #[.int .i64 1] 3)).heap.size) (some ⟨w4.heap.size, 0, none⟩) 1 [1] := RdI.one w4 1 (by decide)
    have ma := heldz hal ma
    have m1 := heldz hal m1
    have mz := heldz hal mz
    have ra := ra.step hal
    have r1 := r1.step hal
    obtain ⟨xz0, xz1, xz2⟩ := box3_of mz
    have hB := hB.trans (hal.mono hB.size)
    clear hal
    go_wp2_with fail
    clear xz0 xz1 xz2
    generalize w4.alloc (.cells #[.int .i64 1] 3) = w5 at ma m1 mz ra r1 hB hone ⊢
    have H := Made_c (c := 1) false PL w5 hone (fun b h => h) (by intro x hx; rw [List.mem_singleton.1 hx]; omega) (by omega) (Nat.le_refl _) (by omega) (by omega)
    (try unfold dv at H)
    (try unfold nv at H)
    refine H.mono ?_
    rintro e w6 ⟨A5, n5, c5, rfl, ht, hb0⟩
    clear H
    have ma := heldz hb0 ma
    have m1 := heldz hb0 m1
    have mz := heldz hb0 mz
    have ra := ra.step hb0
    have r1 := r1.step hb0
    have hB := hB.trans (hb0.mono hB.size)
    clear hb0
    have h55 : dval [1] = 1 := by decide
    rw [h55] at ht ⊢
    have htold : Told (.returned (.tuple #[dv (stN false 1 PL) A5 n5 c5 (stX 1 PL), .int .i64 (stE 1 PL : Int)])) w6 _ 0 false 1 PL := ⟨A5, n5, c5, rfl, ht⟩
    obtain ⟨A6, n6, c6, N5, X5, L5, E5, he5, r5, hn5, o5, -, -, hv5⟩ := told_ok htold (fun _ => by omega)
    have HV5 := Lib.hid hv5
    have hb5 := (okB_true r5.l32 o5).2.2.2.1
    rw [Ending.returned.injEq, Value.tuple.injEq] at he5
    simp only [dv, Array.mk.injEq, List.cons.injEq, Value.agg.injEq, Value.bool.injEq, Value.slice.injEq, Value.int.injEq, and_true, true_and] at he5
    obtain ⟨⟨e51, ⟨e52, e53, e54⟩, e55⟩, e56⟩ := he5
    subst e52 e53 e54
    rw [e51, e55, e56]
    clear ht htold hv5 e51 e55 e56 hone h55 hPL
    dsimp only [dv]
    go_upto_region 8 with fail
    have hal : Below w6.heap.size w6 (w6.alloc (.cells #[.bool N5, .slice A5 n5 c5, .int .i64 X5] 24)) := (Below.refl _ _).alloc (Nat.le_refl _) _
    have ma := heldz hal ma
    have m1 := heldz hal m1
    have mz := heldz hal mz
    have ra := ra.step hal
    have r1 := r1.step hal
    have r5 := r5.step hal
    have m5 := World.alloc_heap_new w6 (.cells #[.bool N5, .slice A5 n5 c5, .int .i64 X5] 24)
    have hB := hB.trans (hal.mono hB.size)
    clear hal
    generalize w6.alloc (.cells #[.bool N5, .slice A5 n5 c5, .int .i64 X5] 24) = w7 at ma m1 mz m5 ra r1 r5  hB ⊢
    obtain ⟨x10, x11, x12⟩ := box3_of m1
    obtain ⟨x50, x51, x52⟩ := box3_of m5
    go_wp2_with fail
    clear x10 x11 x12 x50 x51 x52
    have H := RAdd_v (c := c1) (d := c5) N1 N5 X1 X5 w7 r1 r5 (fun b h => h) hn1 hn5
    (try unfold dv at H)
    (try unfold nv at H)
    refine H.mono ?_
    rintro e w8 ⟨ht, hb0⟩
    clear H
    have ma := heldz hb0 ma
    have m1 := heldz hb0 m1
    have mz := heldz hb0 mz
    have m5 := heldz hb0 m5
    have ra := ra.step hb0
    have r1 := r1.step hb0
    have r5 := r5.step hb0
    have hB := hB.trans (hb0.mono hB.size)
    clear hb0
    obtain ⟨A6, n6, c6, N6, X6, L6, E6, rfl, r6, hn6, o6, -, -, hv6⟩ := told_ok ht (fun _ => by unfold lo2; omega)
    clear ht
    have HV6 := Lib.hid hv6
    have hb6 := (okB_true r6.l32 o6).2.2.2.1
    clear hv6
    dsimp only [dv]
    go_upto_region 9 with fail
    have hal : Below w8.heap.size w8 (w8.alloc (.cells #[.bool N6, .slice A6 n6 c6, .int .i64 X6] 24)) := (Below.refl _ _).alloc (Nat.le_refl _) _
    have ma := heldz hal ma
    have m1 := heldz hal m1
    have mz := heldz hal mz
    have m5 := heldz hal m5
    have ra := ra.step hal
    have r1 := r1.step hal
    have r5 := r5.step hal
    have r6 := r6.step hal
    have m6 := World.alloc_heap_new w8 (.cells #[.bool N6, .slice A6 n6 c6, .int .i64 X6] 24)
    have hB := hB.trans (hal.mono hB.size)
    clear hal
    generalize w8.alloc (.cells #[.bool N6, .slice A6 n6 c6, .int .i64 X6] 24) = w9 at ma m1 mz m5 m6 ra r1 r5 r6  hB ⊢
    obtain ⟨x10, x11, x12⟩ := box3_of m1
    go_wp2_with fail
    clear x10 x11 x12
    have H := RMul_v (c := c1) (d := c1) N1 N1 X1 X1 w9 r1 r1 (fun b h => h) hn1 hn1
    (try unfold dv at H)
    (try unfold nv at H)
    refine H.mono ?_
    rintro e w10 ⟨ht, hb0⟩
    clear H
    have ma := heldz hb0 ma
    have m1 := heldz hb0 m1
    have mz := heldz hb0 mz
    have m5 := heldz hb0 m5
    have m6 := heldz hb0 m6
    have ra := ra.step hb0
    have r1 := r1.step hb0
    have r5 := r5.step hb0
    have r6 := r6.step hb0
    have hB := hB.trans (hb0.mono hB.size)
    clear hb0
    obtain ⟨A7, n7, c7, N7, X7, L7, E7, rfl, r7, hn7, o7, -, -, hv7⟩ := told_ok ht (fun _ => by omega)
    clear ht
    have HV7 := Lib.hid hv7
    have hb7 := (okB_true r7.l32 o7).2.2.2.1
    clear hv7
    dsimp only [dv]
    go_upto_region 10 with fail
    have hal : Below w10.heap.size w10 (w10.alloc (.cells #[.bool N7, .slice A7 n7 c7, .int .i64 X7] 24)) := (Below.refl _ _).alloc (Nat.le_refl _) _
    have ma := heldz hal ma
    have m1 := heldz hal m1
    have mz := heldz hal mz
    have m5 := heldz hal m5
    have m6 := heldz hal m6
    have ra := ra.step hal
    have r1 := r1.step hal
    have r5 := r5.step hal
    have r6 := r6.step hal
    have r7 := r7.step hal
    have m7 := World.alloc_heap_new w10 (.cells #[.bool N7, .slice A7 n7 c7, .int .i64 X7] 24)
    have hB := hB.trans (hal.mono hB.size)
    clear hal
    generalize w10.alloc (.cells #[.bool N7, .slice A7 n7 c7, .int .i64 X7] 24) = w11 at ma m1 mz m5 m6 m7 ra r1 r5 r6 r7  hB ⊢
    obtain ⟨x60, x61, x62⟩ := box3_of m6
    go_wp2_with fail
    clear x60 x61 x62
    have H := RMul_v (c := c6) (d := c6) N6 N6 X6 X6 w11 r6 r6 (fun b h => h) hn6 hn6
    (try unfold dv at H)
    (try unfold nv at H)
    refine H.mono ?_
    rintro e w12 ⟨ht, hb0⟩
    clear H
    have ma := heldz hb0 ma
    have m1 := heldz hb0 m1
    have mz := heldz hb0 mz
    have m5 := heldz hb0 m5
    have m6 := heldz hb0 m6
    have m7 := heldz hb0 m7
    have ra := ra.step hb0
    have r1 := r1.step hb0
    have r5 := r5.step hb0
    have r6 := r6.step hb0
    have r7 := r7.step hb0
    have hB := hB.trans (hb0.mono hB.size)
    clear hb0
    obtain ⟨A8, n8, c8, N8, X8, L8, E8, rfl, r8, hn8, o8, -, -, hv8⟩ := told_ok ht (fun _ => by omega)
    clear ht
    have HV8 := Lib.hid hv8
    have hb8 := (okB_true r8.l32 o8).2.2.2.1
    clear hv8
    dsimp only [dv]
    go_upto_region 11 with fail
    have hal : Below w12.heap.size w12 (w12.alloc (.cells #[.bool N8, .slice A8 n8 c8, .int .i64 X8] 24)) := (Below.refl _ _).alloc (Nat.le_refl _) _
    have ma := heldz hal ma
    have m1 := heldz hal m1
    have mz := heldz hal mz
    have m5 := heldz hal m5
    have m6 := heldz hal m6
    have m7 := heldz hal m7
    have ra := ra.step hal
    have r1 := r1.step hal
    have r5 := r5.step hal
    have r6 := r6.step hal
    have r7 := r7.step hal
    have r8 := r8.step hal
    have m8 := World.alloc_heap_new w12 (.cells #[.bool N8, .slice A8 n8 c8, .int .i64 X8] 24)
    have hB := hB.trans (hal.mono hB.size)
    clear hal
    generalize w12.alloc (.cells #[.bool N8, .slice A8 n8 c8, .int .i64 X8] 24) = w13 at ma m1 mz m5 m6 m7 m8 ra r1 r5 r6 r7 r8  hB ⊢
    obtain ⟨xz0, xz1, xz2⟩ := box3_of mz
    obtain ⟨xa0, xa1, xa2⟩ := box3_of ma
    obtain ⟨x70, x71, x72⟩ := box3_of m7
    obtain ⟨x80, x81, x82⟩ := box3_of m8
    by_cases h5 : E5 = 0
    rotate_left
    · have hEb : (((E5 : Nat) : Int) != 0) = true := by rw [bne_iff_ne]; omega
      clear h5
      go_wp2_with fail
      go_ret
      exact ⟨rfl, hB⟩
    subst h5
    by_cases h6 : E6 = 0
    rotate_left
    · have hEb : (((E6 : Nat) : Int) != 0) = true := by rw [bne_iff_ne]; omega
      clear h6
      go_wp2_with fail
      go_ret
      exact ⟨rfl, hB⟩
    subst h6
    by_cases h7 : E7 = 0
    rotate_left
    · have hEb : (((E7 : Nat) : Int) != 0) = true := by rw [bne_iff_ne]; omega
      clear h7
      go_wp2_with fail
      go_ret
      exact ⟨rfl, hB⟩
    subst h7
    by_cases h8 : E8 = 0
    rotate_left
    · have hEb : (((E8 : Nat) : Int) != 0) = true := by rw [bne_iff_ne]; omega
      clear h8
      go_wp2_with fail
      go_ret
      exact ⟨rfl, hB⟩
    subst h8
    have hfin : cmpI (sv N7 (val L7) X7) (sv false (val xs) e1) ≤ 0 ∧ 0 < cmpI (sv N8 (val L8) X8) (sv false (val xs) e1) := by
      obtain ⟨g1, g2, g3⟩ := HAB.out
      obtain ⟨ho, -⟩ := HV5.out rfl
      obtain ⟨hn', -⟩ := HV6.out rfl
      obtain ⟨hx, -⟩ := HV7.out rfl
      obtain ⟨hy, -⟩ := HV8.out rfl
      rw [HPL.out] at ho
      rw [add_sv _ _ _ _ _ _ (by omega) (by omega)] at hn'
      obtain ⟨c1, c2⟩ := root_law g1 HX0.out g2 g3 HQ10.out HR.out.1 HR.out.2 HQ.out HQX.out ho hn' hb6 hx hy
      unfold cmpI
      constructor
      · split
        · omega
        · first | omega | (split <;> omega)
      · split
        · omega
        · first | omega | (split <;> omega)
    obtain ⟨hc1, hc2⟩ := hfin
    clear HV5 HV6 HV7 HV8 HPL HX0 HQ10 HQ HQX HR
    have hord1 := order3_c (c := c7) (d := c) N7 false X7 e1 w13 r7 ra (fun b h => h) o7 k1
    have hord2 := fun V (h1 : Rd V (fun b => b < V.heap.size) A8 n8 L8) (h2 : Rd V (fun b => b < V.heap.size) A n xs) => order3_c (c := c8) (d := c) N8 false X8 e1 V h1 h2 (fun b h => h) o8 k1
    unfold dv at hord1 hord2
    generalize cmpI (sv N7 (val L7) X7) (sv false (val xs) e1) = C1 at *
    generalize cmpI (sv N8 (val L8) X8) (sv false (val xs) e1) = C2 at *
    go_wp2_with fail
    refine hord1.mono ?_
    rintro e v1 ⟨rfl, hb0⟩
    have ma := heldz hb0 ma
    have m1 := heldz hb0 m1
    have mz := heldz hb0 mz
    have m5 := heldz hb0 m5
    have m6 := heldz hb0 m6
    have m7 := heldz hb0 m7
    have m8 := heldz hb0 m8
    have ra := ra.step hb0
    have r1 := r1.step hb0
    have r5 := r5.step hb0
    have r6 := r6.step hb0
    have r7 := r7.step hb0
    have r8 := r8.step hb0
    have hB := hB.trans (hb0.mono hB.size)
    clear hb0 hord1
    clear xz0 xz1 xz2 xa0 xa1 xa2 x70 x71 x72 x80 x81 x82
    obtain ⟨xa0, xa1, xa2⟩ := box3_of ma
    obtain ⟨x80, x81, x82⟩ := box3_of m8
    go_wp2_with fail
    refine (hord2 v1 r8 ra).mono ?_
    rintro e v2 ⟨rfl, hb0⟩
    go_wp2
    go_ret
    exact ⟨rfl, hB.trans (hb0.mono hB.size)⟩
end Go.Proofs.YtbbafggejnjjiaaGreatDoor
