/-
  The walk of the law QuotHalf: it returns true, whatever the two decimals read as. Written by gen_half.py.
-/
import Derived.Test.YtbbafggejnjjiaaGreatDoorQlaw
import Derived.Test.YtbbafggejnjjiaaGreatDoorQord
import Derived.Test.YtbbafggejnjjiaaGreatDoorDrmul
import Derived.Test.YtbbafggejnjjiaaGreatDoorDrsub
set_option linter.unusedVariables false
set_option linter.unusedSimpArgs false
namespace Go.Proofs.YtbbafggejnjjiaaGreatDoor
open Go.RowKit

set_option maxRecDepth 100000 in
set_option maxHeartbeats 8000000 in
theorem QuotHalf_c {S : Nat → Prop} {n m c d : Nat} {A B : Option Addr} {xs ys : List Nat} (na nb : Bool) (e1 e2 : Int) (w : World) (ha : Rd w S A n xs) (hb : Rd w S B m ys)
    (hS : ∀ b, S b → b < w.heap.size) (hn : n ≤ 9223372036854775807) (hm : m ≤ 9223372036854775807) :
    Calls Tryz.prog 6 #[dv na A n c e1, dv nb B m d e2] w fun e w' => e = .returned (.bool true) ∧ Below w.heap.size w w' := by
  have up : ∀ {V : World}, Below w.heap.size w V → ∀ b, b < w.heap.size → b < V.heap.size := fun h b hb => by have := h.size; omega
  have hW : Below w.heap.size w ((w.alloc (.cells #[.bool na, .slice A n c, .int .i64 e1] 24)).alloc (.cells #[.bool nb, .slice B m d, .int .i64 e2] 24)) := ((Below.refl w.heap.size w).alloc (Nat.le_refl _) _).alloc (by simp) _
  obtain ⟨ma, mb⟩ := two_new w (.cells #[.bool na, .slice A n c, .int .i64 e1] 24) (.cells #[.bool nb, .slice B m d, .int .i64 e2] 24)
  unfold dv
  go_enter Tryz.func6, Tryz.ntmps6
  go_wp2_with fail
  generalize ((w.alloc (.cells #[.bool na, .slice A n c, .int .i64 e1] 24)).alloc (.cells #[.bool nb, .slice B m d, .int .i64 e2] 24)) = W at ma mb hW ⊢
  refine (alive3_c W).mono ?_
  rintro e w0 ⟨rfl, hb0⟩
  have ma := heldz hb0 ma
  have mb := heldz hb0 mb
  have hB := hW.trans (hb0.mono hW.size)
  have ra : Rd w0 (fun b => b < w0.heap.size) A n xs := (ha.below hB hS).more (fun b h => up hB b (hS b h))
  have rb : Rd w0 (fun b => b < w0.heap.size) B m ys := (hb.below hB hS).more (fun b h => up hB b (hS b h))
  clear hW hb0 ha hb hS up
  obtain ⟨xa0, xa1, xa2⟩ := box3_of ma
  obtain ⟨xb0, xb1, xb2⟩ := box3_of mb
  go_wp2_with fail
  clear xa0 xa1 xa2 xb0 xb1 xb2
  have H := QDiv_c (c := c) (d := d) na nb e1 e2 w0 ra rb (fun b h => h) hn hm
  (try unfold dv at H)
  (try unfold nv at H)
  refine H.mono ?_
  rintro e w1 ⟨⟨E0, s0, Z0, lo0, hP, ht⟩, hb0⟩
  clear H
  have ma := heldz hb0 ma
  have mb := heldz hb0 mb
  have ra := ra.step hb0
  have rb := rb.step hb0
  have hB := hB.trans (hb0.mono hB.size)
  clear hb0
  obtain ⟨A1, n1, c1, N1, X1, L1, E1, rfl, r1, hn1, o1, hE1, hL1, hv1⟩ := told_ok ht (fun h0 => by
    rcases hP with ⟨h1, h2⟩ | ⟨h1, ⟨_, h2⟩ | ⟨_, _, _, _, h2⟩⟩
    · exact absurd (h2.symm.trans h0) h1
    · rw [h2] at h0; exact absurd h0 (by decide)
    · obtain ⟨k1, k2⟩ := okE2_zero.1 h1
      obtain ⟨_, _, a3, a4, _, _⟩ := okB_true ra.l32 k1
      obtain ⟨_, _, b3, b4, _, _⟩ := okB_true rb.l32 k2
      have := qS_bounds a3 b3
      rw [h2]; unfold qX; omega)
  clear ht
  dsimp only [dv]
  go_upto_region 4 with fail
  have hal : Below w1.heap.size w1 (w1.alloc (.cells #[.bool N1, .slice A1 n1 c1, .int .i64 X1] 24)) := (Below.refl _ _).alloc (Nat.le_refl _) _
  have ma := heldz hal ma
  have mb := heldz hal mb
  have ra := ra.step hal
  have rb := rb.step hal
  have r1 := r1.step hal
  have m1 := World.alloc_heap_new w1 (.cells #[.bool N1, .slice A1 n1 c1, .int .i64 X1] 24)
  have hB := hB.trans (hal.mono hB.size)
  clear hal
  generalize w1.alloc (.cells #[.bool N1, .slice A1 n1 c1, .int .i64 X1] 24) = w2 at ma mb m1 ra rb r1  hB ⊢
  have hl1 := r1.len
  by_cases hbad : E1 ≠ 0 ∨ n1 = 0
  · have hz : n1 = 0 := by
      rcases hbad with h | h
      · rw [← hl1, hL1 h]; rfl
      · exact h
    subst hz
    obtain ⟨x10, x11, x12⟩ := box3_of m1
    clear hP hE1 hL1 hv1
    by_cases hE : E1 = 0
    · subst hE
      go_wp2_with (go_at_call 22; refine (num3_c _ _).mono ?_; rintro e w' ⟨rfl, rfl⟩)
      go_ret
      exact ⟨rfl, hB⟩
    · have hEb : (((E1 : Nat) : Int) != 0) = true := by rw [bne_iff_ne]; omega
      clear hE hbad
      go_wp2_with (go_at_call 22; refine (num3_c _ _).mono ?_; rintro e w' ⟨rfl, rfl⟩)
      go_ret
      exact ⟨rfl, hB⟩
  · have hE0 : E1 = 0 := by omega
    have hn0 : n1 ≠ 0 := by omega
    subst hE0
    obtain ⟨hq, hqX⟩ := hv1 rfl
    have hE00 : E0 = 0 := by
      rcases Nat.eq_zero_or_pos E0 with h | h
      · exact h
      · exact absurd rfl (hE1 (by omega))
    have hall : okB na xs e1 = true ∧ okB nb ys e2 = true ∧ val ys ≠ 0 ∧ s0 = (na != nb) ∧ Z0 = qZ (val xs) (val ys) ∧ lo0 = qX (val xs) (val ys) e1 e2 := by
      rcases hP with ⟨h1, h2⟩ | ⟨h1, ⟨_, h2⟩ | ⟨h3, _, h4, h5, h6⟩⟩
      · exact absurd (h2.symm.trans hE00) h1
      · rw [h2] at hE00; exact absurd hE00 (by decide)
      · obtain ⟨k1, k2⟩ := okE2_zero.1 h1
        exact ⟨k1, k2, h3, h4, h5, h6⟩
    obtain ⟨k1, k2, hy0, rfl, rfl, rfl⟩ := hall
    clear hP hE1 hL1 hv1 hE00
    obtain ⟨_, a2, a3, a4, _, _⟩ := okB_true ra.l32 k1
    obtain ⟨_, b2, b3, b4, _, _⟩ := okB_true rb.l32 k2
    obtain ⟨q1, q2, q3, q4, _, _⟩ := okB_true r1.l32 o1
    have hx0 : 0 < val xs := by
      rcases Nat.eq_zero_or_pos (val xs) with h | h
      · exfalso
        rw [h, qZ_zero (by omega), sg_zero, Int.zero_mul, sv_zero_iff] at hq
        rw [q1.val_zero hq] at hl1
        exact hn0 hl1.symm
      · exact h
    have hq10 : val L1 % 10 ≠ 0 := by
      rcases okB_cases r1.l32 o1 with ⟨h, _, _⟩ | ⟨_, h⟩
      · rw [h] at hl1; exact absurd hl1.symm hn0
      · exact h
    have hZp := (qZ_40 hx0 (show 0 < val ys by omega)).1
    have hqX := hqX (by omega)
    have hn1256 : n1 ≤ 256 := by rw [← hl1]; exact q2
    have hlen := cf_len (sg_val hq).1 hqX (by have := qS_bounds a3 b3; unfold qX; omega) hZp (qZ_40 hx0 (show 0 < val ys by omega)).2 hq10
    have hnb1 : ((n1 : Int) == 0) = false := by rw [beq_eq_false_iff_ne]; omega
    have HQ := Lib.hid hq
    have HQX := Lib.hid hqX
    have HLEN := Lib.hid hlen
    have HYX := Lib.hid (And.intro hx0 (show 0 < val ys by omega))
    have HQ10 := Lib.hid hq10
    have HAB := Lib.hid (And.intro a3 (And.intro b3 (And.intro a4 (And.intro b4 q4))))
    clear hq hqX hlen hx0 hy0 hq10 hZp a2 a3 a4 b2 b3 b4 q1 q2 q3 hl1 hbad
    obtain ⟨q5, q6⟩ := q4
    obtain ⟨x10, x11, x12⟩ := box3_of m1
    go_wp2_with (go_at_call 22; refine (num3_c _ _).mono ?_; rintro e w' ⟨rfl, rfl⟩)
    clear x10 x11 x12
    have H := Of_c (c := c1) N1 X1 w2 r1 (fun b h => h) hn1256
    (try unfold dv at H)
    (try unfold nv at H)
    refine H.mono ?_
    rintro e w3 ⟨A2, n2, c2, ds, rfl, rz, d2, v2, l2, hb0⟩
    clear H
    have ma := heldz hb0 ma
    have mb := heldz hb0 mb
    have m1 := heldz hb0 m1
    have ra := ra.step hb0
    have rb := rb.step hb0
    have r1 := r1.step hb0
    have hB := hB.trans (hb0.mono hB.size)
    clear hb0
    have HL2 := Lib.hid (show n2 = (dOf (val L1)).length by rw [← v2, ← dOf_len_eqq d2]; exact rz.len.symm)
    clear rz d2 v2
    skip
    go_upto_region 7 with fail
    have hal : Below w3.heap.size w3 (w3.alloc (.cells #[.bool N1, .slice A2 n2 c2, .int .i64 X1] 41)) := (Below.refl _ _).alloc (Nat.le_refl _) _
    have ma := heldz hal ma
    have mb := heldz hal mb
    have m1 := heldz hal m1
    have ra := ra.step hal
    have rb := rb.step hal
    have r1 := r1.step hal
    have mz := World.alloc_heap_new w3 (.cells #[.bool N1, .slice A2 n2 c2, .int .i64 X1] 41)
    have hB := hB.trans (hal.mono hB.size)
    clear hal
    generalize w3.alloc (.cells #[.bool N1, .slice A2 n2 c2, .int .i64 X1] 41) = w4 at ma mb m1 mz ra rb r1  hB ⊢
    obtain ⟨x10, x11, x12⟩ := box3_of m1
    obtain ⟨xb0, xb1, xb2⟩ := box3_of mb
    go_wp2_with fail
    clear x10 x11 x12 xb0 xb1 xb2
    have H := RMul_v (c := c1) (d := d) N1 nb X1 e2 w4 r1 rb (fun b h => h) hn1 hm
    (try unfold dv at H)
    (try unfold nv at H)
    refine H.mono ?_
    rintro e w5 ⟨ht, hb0⟩
    clear H
    have ma := heldz hb0 ma
    have mb := heldz hb0 mb
    have m1 := heldz hb0 m1
    have mz := heldz hb0 mz
    have ra := ra.step hb0
    have rb := rb.step hb0
    have r1 := r1.step hb0
    have hB := hB.trans (hb0.mono hB.size)
    clear hb0
    obtain ⟨A3, n3, c3, N3, X3, L3, E3, rfl, r3, hn3, o3, -, -, hv3⟩ := told_ok ht (fun _ => by have := HAB.out; omega)
    clear ht
    have HV3 := Lib.hid hv3
    have hb3 := (okB_true r3.l32 o3).2.2.2.1
    clear hv3
    dsimp only [dv]
    go_upto_region 8 with fail
    have hal : Below w5.heap.size w5 (w5.alloc (.cells #[.bool N3, .slice A3 n3 c3, .int .i64 X3] 24)) := (Below.refl _ _).alloc (Nat.le_refl _) _
    have ma := heldz hal ma
    have mb := heldz hal mb
    have m1 := heldz hal m1
    have mz := heldz hal mz
    have ra := ra.step hal
    have rb := rb.step hal
    have r1 := r1.step hal
    have r3 := r3.step hal
    have m3 := World.alloc_heap_new w5 (.cells #[.bool N3, .slice A3 n3 c3, .int .i64 X3] 24)
    have hB := hB.trans (hal.mono hB.size)
    clear hal
    generalize w5.alloc (.cells #[.bool N3, .slice A3 n3 c3, .int .i64 X3] 24) = w6 at ma mb m1 mz m3 ra rb r1 r3  hB ⊢
    obtain ⟨xa0, xa1, xa2⟩ := box3_of ma
    obtain ⟨x30, x31, x32⟩ := box3_of m3
    go_wp2_with fail
    clear xa0 xa1 xa2 x30 x31 x32
    have H := RSub_v (c := c) (d := c3) na N3 e1 X3 w6 ra r3 (fun b h => h) hn hn3
    (try unfold dv at H)
    (try unfold nv at H)
    refine H.mono ?_
    rintro e w7 ⟨ht, hb0⟩
    clear H
    have ma := heldz hb0 ma
    have mb := heldz hb0 mb
    have m1 := heldz hb0 m1
    have mz := heldz hb0 mz
    have m3 := heldz hb0 m3
    have ra := ra.step hb0
    have rb := rb.step hb0
    have r1 := r1.step hb0
    have r3 := r3.step hb0
    have hB := hB.trans (hb0.mono hB.size)
    clear hb0
    obtain ⟨A4, n4, c4, N4, X4, L4, E4, rfl, r4, hn4, o4, -, -, hv4⟩ := told_ok ht (fun _ => by have := HAB.out; unfold lo2; omega)
    clear ht
    have HV4 := Lib.hid hv4
    have hb4 := (okB_true r4.l32 o4).2.2.2.1
    clear hv4
    dsimp only [dv]
    go_upto_region 9 with fail
    have hal : Below w7.heap.size w7 (w7.alloc (.cells #[.bool N4, .slice A4 n4 c4, .int .i64 X4] 24)) := (Below.refl _ _).alloc (Nat.le_refl _) _
    have ma := heldz hal ma
    have mb := heldz hal mb
    have m1 := heldz hal m1
    have mz := heldz hal mz
    have m3 := heldz hal m3
    have ra := ra.step hal
    have rb := rb.step hal
    have r1 := r1.step hal
    have r3 := r3.step hal
    have r4 := r4.step hal
    have m4 := World.alloc_heap_new w7 (.cells #[.bool N4, .slice A4 n4 c4, .int .i64 X4] 24)
    have hB := hB.trans (hal.mono hB.size)
    clear hal
    generalize w7.alloc (.cells #[.bool N4, .slice A4 n4 c4, .int .i64 X4] 24) = w8 at ma mb m1 mz m3 m4 ra rb r1 r3 r4  hB ⊢
    obtain ⟨xz0, xz1, xz2⟩ := box3_of mz
    by_cases he34 : E3 = 0 ∧ E4 = 0
    rotate_left
    · have hle : ((n2 : Nat) : Int) ≤ 40 := by have := HLEN.out.1; have := HL2.out; omega
      have hret : (E3 ≠ 0) ∨ (E3 = 0 ∧ E4 ≠ 0) := by omega
      rcases hret with h | ⟨h, h4⟩
      · have hEb : (((E3 : Nat) : Int) != 0) = true := by rw [bne_iff_ne]; omega
        clear h he34
        go_wp2_with fail
        go_ret
        exact ⟨rfl, hB⟩
      · subst h
        have hEb : (((E4 : Nat) : Int) != 0) = true := by rw [bne_iff_ne]; omega
        clear h4 he34
        go_wp2_with fail
        go_ret
        exact ⟨rfl, hB⟩
    obtain ⟨rfl, rfl⟩ := he34
    obtain ⟨hp, -⟩ := HV3.out rfl
    obtain ⟨hd, -⟩ := HV4.out rfl
    have hd2 : sv N4 (val L4) X4 = sv na (val xs) e1 - sv N3 (val L3) X3 := by
      rw [hd, add_sv _ _ _ _ _ _ (by have := HAB.out; omega) (by omega), ops_sv]
      omega
    have HP := Lib.hid hp
    have HD := Lib.hid hd2
    clear hp hd hd2 HV3 HV4
    have hle : (n2 : Int) ≤ 40 := by have := HLEN.out.1; have := HL2.out; omega
    obtain ⟨PL, hPL⟩ : ∃ q, X1 - (40 - (n2 : Int)) = q := ⟨_, rfl⟩
    go_upto_region 12 with fail
    clear xz0 xz1 xz2
    have HPL := Lib.hid (show PL = X1 - (40 - ((dOf (val L1)).length : Int)) by rw [← hPL, HL2.out])
    have hpl : -1040 ≤ PL ∧ PL ≤ 1040 := by have := HLEN.out.1; have := HPL.out; omega
    obtain ⟨hpl1, hpl2⟩ := hpl
    clear hPL
    go_wp2_with fail
    have hal : Below w8.heap.size w8 (w8.alloc (.cells #[.int .i64 5] 3)) := (Below.refl _ _).alloc (Nat.le_refl _) _
    have hone := RdI.one w8 5 (by decide)
    have ma := heldz hal ma
    have mb := heldz hal mb
    have m1 := heldz hal m1
    have mz := heldz hal mz
    have m3 := heldz hal m3
    have m4 := heldz hal m4
    have ra := ra.step hal
    have rb := rb.step hal
    have r1 := r1.step hal
    have r3 := r3.step hal
    have r4 := r4.step hal
    have hB := hB.trans (hal.mono hB.size)
    clear hal
    have hone : RdI (w8.alloc (.cells #[.int .i64 5] 3)) (fun b => b < (w8.alloc (.cells #[.int .i64 5] 3)).heap.size) (some ⟨w8.heap.size, 0, none⟩) 1 [5] := hone
    generalize w8.alloc (.cells #[.int .i64 5] 3) = w9 at ma mb m1 mz m3 m4 ra rb r1 r3 r4 hB hone ⊢
    have H := Made_c (c := 1) false (PL - 1) w9 hone (fun b h => h) (by intro x hx; rw [List.mem_singleton.1 hx]; omega) (by omega) (Nat.le_refl _) (by omega) (by omega)
    (try unfold dv at H)
    (try unfold nv at H)
    refine H.mono ?_
    rintro e w10 ⟨A5, n5, c5, rfl, ht, hb0⟩
    clear H
    have ma := heldz hb0 ma
    have mb := heldz hb0 mb
    have m1 := heldz hb0 m1
    have mz := heldz hb0 mz
    have m3 := heldz hb0 m3
    have m4 := heldz hb0 m4
    have ra := ra.step hb0
    have rb := rb.step hb0
    have r1 := r1.step hb0
    have r3 := r3.step hb0
    have r4 := r4.step hb0
    have hB := hB.trans (hb0.mono hB.size)
    clear hb0
    have h55 : dval [5] = 5 := by decide
    rw [h55] at ht ⊢
    have htold : Told (.returned (.tuple #[dv (stN false 5 (PL - 1)) A5 n5 c5 (stX 5 (PL - 1)), .int .i64 (stE 5 (PL - 1) : Int)])) w10 _ 0 false 5 (PL - 1) := ⟨A5, n5, c5, rfl, ht⟩
    obtain ⟨A6, n6, c6, N5, X5, L5, E5, he5, r5, hn5, o5, -, -, hv5⟩ := told_ok htold (fun _ => by omega)
    have HV5 := Lib.hid hv5
    have hb5 := (okB_true r5.l32 o5).2.2.2.1
    rw [Ending.returned.injEq, Value.tuple.injEq] at he5
    simp only [dv, Array.mk.injEq, List.cons.injEq, Value.agg.injEq, Value.bool.injEq, Value.slice.injEq, Value.int.injEq, and_true, true_and] at he5
    obtain ⟨⟨e51, ⟨e52, e53, e54⟩, e55⟩, e56⟩ := he5
    subst e52 e53 e54
    rw [e51, e55, e56]
    clear ht htold hv5 e51 e55 e56 hone h55
    dsimp only [dv]
    go_upto_region 13 with fail
    have hal : Below w10.heap.size w10 (w10.alloc (.cells #[.bool N5, .slice A5 n5 c5, .int .i64 X5] 24)) := (Below.refl _ _).alloc (Nat.le_refl _) _
    have ma := heldz hal ma
    have mb := heldz hal mb
    have m1 := heldz hal m1
    have mz := heldz hal mz
    have m3 := heldz hal m3
    have m4 := heldz hal m4
    have ra := ra.step hal
    have rb := rb.step hal
    have r1 := r1.step hal
    have r3 := r3.step hal
    have r4 := r4.step hal
    have r5 := r5.step hal
    have m5 := World.alloc_heap_new w10 (.cells #[.bool N5, .slice A5 n5 c5, .int .i64 X5] 24)
    have hB := hB.trans (hal.mono hB.size)
    clear hal
    generalize w10.alloc (.cells #[.bool N5, .slice A5 n5 c5, .int .i64 X5] 24) = w11 at ma mb m1 mz m3 m4 m5 ra rb r1 r3 r4 r5  hB ⊢
    obtain ⟨x50, x51, x52⟩ := box3_of m5
    obtain ⟨xb0, xb1, xb2⟩ := box3_of mb
    go_wp2_with fail
    clear x50 x51 x52 xb0 xb1 xb2
    have H := RMul_v (c := c5) (d := d) N5 nb X5 e2 w11 r5 rb (fun b h => h) hn5 hm
    (try unfold dv at H)
    (try unfold nv at H)
    refine H.mono ?_
    rintro e w12 ⟨ht, hb0⟩
    clear H
    have ma := heldz hb0 ma
    have mb := heldz hb0 mb
    have m1 := heldz hb0 m1
    have mz := heldz hb0 mz
    have m3 := heldz hb0 m3
    have m4 := heldz hb0 m4
    have m5 := heldz hb0 m5
    have ra := ra.step hb0
    have rb := rb.step hb0
    have r1 := r1.step hb0
    have r3 := r3.step hb0
    have r4 := r4.step hb0
    have r5 := r5.step hb0
    have hB := hB.trans (hb0.mono hB.size)
    clear hb0
    obtain ⟨A6, n6, c6, N6, X6, L6, E6, rfl, r6, hn6, o6, -, -, hv6⟩ := told_ok ht (fun _ => by have := HAB.out; omega)
    clear ht
    have HV6 := Lib.hid hv6
    have hb6 := (okB_true r6.l32 o6).2.2.2.1
    clear hv6
    dsimp only [dv]
    go_upto_region 14 with fail
    have hal : Below w12.heap.size w12 (w12.alloc (.cells #[.bool N6, .slice A6 n6 c6, .int .i64 X6] 24)) := (Below.refl _ _).alloc (Nat.le_refl _) _
    have ma := heldz hal ma
    have mb := heldz hal mb
    have m1 := heldz hal m1
    have mz := heldz hal mz
    have m3 := heldz hal m3
    have m4 := heldz hal m4
    have m5 := heldz hal m5
    have ra := ra.step hal
    have rb := rb.step hal
    have r1 := r1.step hal
    have r3 := r3.step hal
    have r4 := r4.step hal
    have r5 := r5.step hal
    have r6 := r6.step hal
    have m6 := World.alloc_heap_new w12 (.cells #[.bool N6, .slice A6 n6 c6, .int .i64 X6] 24)
    have hB := hB.trans (hal.mono hB.size)
    clear hal
    generalize w12.alloc (.cells #[.bool N6, .slice A6 n6 c6, .int .i64 X6] 24) = w13 at ma mb m1 mz m3 m4 m5 m6 ra rb r1 r3 r4 r5 r6  hB ⊢
    obtain ⟨x40, x41, x42⟩ := box3_of m4
    go_wp2_with fail
    clear x40 x41 x42
    have H := RAbs_c (c := c4) N4 X4 w13 r4 (fun b h => h) hn4 o4
    (try unfold dv at H)
    (try unfold nv at H)
    refine H.mono ?_
    rintro e w14 ⟨A7, n7, c7, rfl, ht, hb0⟩
    clear H
    have ma := heldz hb0 ma
    have mb := heldz hb0 mb
    have m1 := heldz hb0 m1
    have mz := heldz hb0 mz
    have m3 := heldz hb0 m3
    have m4 := heldz hb0 m4
    have m5 := heldz hb0 m5
    have m6 := heldz hb0 m6
    have ra := ra.step hb0
    have rb := rb.step hb0
    have r1 := r1.step hb0
    have r3 := r3.step hb0
    have r4 := r4.step hb0
    have r5 := r5.step hb0
    have r6 := r6.step hb0
    have hB := hB.trans (hb0.mono hB.size)
    clear hb0
    have r7 := ht.all
    have hn7 := ht.small
    clear ht
    dsimp only [dv]
    go_upto_region 15 with fail
    have hal : Below w14.heap.size w14 (w14.alloc (.cells #[.bool false, .slice A7 n7 c7, .int .i64 X4] 24)) := (Below.refl _ _).alloc (Nat.le_refl _) _
    have ma := heldz hal ma
    have mb := heldz hal mb
    have m1 := heldz hal m1
    have mz := heldz hal mz
    have m3 := heldz hal m3
    have m4 := heldz hal m4
    have m5 := heldz hal m5
    have m6 := heldz hal m6
    have ra := ra.step hal
    have rb := rb.step hal
    have r1 := r1.step hal
    have r3 := r3.step hal
    have r4 := r4.step hal
    have r5 := r5.step hal
    have r6 := r6.step hal
    have r7 := r7.step hal
    have m7 := World.alloc_heap_new w14 (.cells #[.bool false, .slice A7 n7 c7, .int .i64 X4] 24)
    have hB := hB.trans (hal.mono hB.size)
    clear hal
    generalize w14.alloc (.cells #[.bool false, .slice A7 n7 c7, .int .i64 X4] 24) = w15 at ma mb m1 mz m3 m4 m5 m6 m7 ra rb r1 r3 r4 r5 r6 r7  hB ⊢
    obtain ⟨x60, x61, x62⟩ := box3_of m6
    go_wp2_with fail
    clear x60 x61 x62
    have H := RAbs_c (c := c6) N6 X6 w15 r6 (fun b h => h) hn6 o6
    (try unfold dv at H)
    (try unfold nv at H)
    refine H.mono ?_
    rintro e w16 ⟨A8, n8, c8, rfl, ht, hb0⟩
    clear H
    have ma := heldz hb0 ma
    have mb := heldz hb0 mb
    have m1 := heldz hb0 m1
    have mz := heldz hb0 mz
    have m3 := heldz hb0 m3
    have m4 := heldz hb0 m4
    have m5 := heldz hb0 m5
    have m6 := heldz hb0 m6
    have m7 := heldz hb0 m7
    have ra := ra.step hb0
    have rb := rb.step hb0
    have r1 := r1.step hb0
    have r3 := r3.step hb0
    have r4 := r4.step hb0
    have r5 := r5.step hb0
    have r6 := r6.step hb0
    have r7 := r7.step hb0
    have hB := hB.trans (hb0.mono hB.size)
    clear hb0
    have r8 := ht.all
    have hn8 := ht.small
    clear ht
    dsimp only [dv]
    go_upto_region 16 with fail
    have hal : Below w16.heap.size w16 (w16.alloc (.cells #[.bool false, .slice A8 n8 c8, .int .i64 X6] 24)) := (Below.refl _ _).alloc (Nat.le_refl _) _
    have ma := heldz hal ma
    have mb := heldz hal mb
    have m1 := heldz hal m1
    have mz := heldz hal mz
    have m3 := heldz hal m3
    have m4 := heldz hal m4
    have m5 := heldz hal m5
    have m6 := heldz hal m6
    have m7 := heldz hal m7
    have ra := ra.step hal
    have rb := rb.step hal
    have r1 := r1.step hal
    have r3 := r3.step hal
    have r4 := r4.step hal
    have r5 := r5.step hal
    have r6 := r6.step hal
    have r7 := r7.step hal
    have r8 := r8.step hal
    have m8 := World.alloc_heap_new w16 (.cells #[.bool false, .slice A8 n8 c8, .int .i64 X6] 24)
    have hB := hB.trans (hal.mono hB.size)
    clear hal
    generalize w16.alloc (.cells #[.bool false, .slice A8 n8 c8, .int .i64 X6] 24) = w17 at ma mb m1 mz m3 m4 m5 m6 m7 m8 ra rb r1 r3 r4 r5 r6 r7 r8  hB ⊢
    obtain ⟨xz0, xz1, xz2⟩ := box3_of mz
    obtain ⟨x70, x71, x72⟩ := box3_of m7
    obtain ⟨x80, x81, x82⟩ := box3_of m8
    have hfin : E5 ≠ 0 ∨ (E5 = 0 ∧ E6 ≠ 0) ∨ (E5 = 0 ∧ E6 = 0 ∧ cmpI (sv false (val L4) X4) (sv false (val L6) X6) ≤ 0) := by
      by_cases h5 : E5 = 0
      · by_cases h6 : E6 = 0
        · right; right
          refine ⟨h5, h6, ?_⟩
          obtain ⟨g1, g2, g3, g4, g5⟩ := HAB.out
          obtain ⟨hu, -⟩ := HV5.out h5
          obtain ⟨hr, -⟩ := HV6.out h6
          rw [HPL.out] at hu
          have hl := half_law g1 g2 HYX.out.1 HYX.out.2 g3 g4 g5 HQ10.out HQ.out HQX.out HP.out HD.out hb5 hu hr
          have hl2 : sv false (val L4) X4 ≤ sv false (val L6) X6 := Int.ofNat_le.2 hl
          unfold cmpI
          split
          · omega
          · split
            · omega
            · omega
        · exact .inr (.inl ⟨h5, h6⟩)
      · exact .inl h5
    have hord := order3_c (c := c7) (d := c8) false false X4 X6 w17 r7 r8 (fun b h => h) (okB_false o4) (okB_false o6)
    unfold dv at hord
    clear HV5 HV6 HPL HYX HQ10 HQ HQX HP HD
    rcases hfin with h5 | ⟨h5, h6⟩ | ⟨h5, h6, hc⟩
    · have hEb : (((E5 : Nat) : Int) != 0) = true := by rw [bne_iff_ne]; omega
      clear h5
      go_wp2_with fail
      go_ret
      exact ⟨rfl, hB⟩
    · subst h5
      have hEb : (((E6 : Nat) : Int) != 0) = true := by rw [bne_iff_ne]; omega
      clear h6
      go_wp2_with fail
      go_ret
      exact ⟨rfl, hB⟩
    · subst h5
      subst h6
      generalize cmpI (sv false (val L4) X4) (sv false (val L6) X6) = CC at *
      go_wp2_with fail
      refine hord.mono ?_
      rintro e v1 ⟨rfl, hb0⟩
      go_wp2
      go_ret
      exact ⟨rfl, hB.trans (hb0.mono hB.size)⟩
end Go.Proofs.YtbbafggejnjjiaaGreatDoor
