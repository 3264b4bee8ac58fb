/-
  The walk of the law QuotTells: it returns true, whatever the two decimals read as. Written by gen_qtells.py.
-/
import Derived.Test.YtbbafggejnjjiaaGreatDoorQtellp
set_option linter.unusedVariables false
set_option linter.unusedSimpArgs false
namespace Go.Proofs.YtbbafggejnjjiaaGreatDoor
open Go.RowKit

/-- One answer, in the form that a walk rewrites with. -/
def Ans (f : FuncId) (args : Array Value) (V : World) (N : Bool) (X : Int) (E : Nat) (L : List Nat) : Prop :=
  Calls Tryz.prog f args V fun e w' => ∃ A' n' c', e = .returned (.tuple #[.agg #[.bool N, .slice A' n' c', .int .i64 X], .int .i64 (E : Int)]) ∧ Rd w' (fun b => b < w'.heap.size) A' n' L ∧ n' ≤ 9223372036854775807 ∧ Below V.heap.size V w'
theorem ans_of {P : Nat → Bool → Nat → Int → Prop} {f : FuncId} {args : Array Value} {V : World} {N : Bool} {X : Int} {E : Nat} {L : List Nat}
    (hT : ∀ e w' base, ToldP P e w' base → ∃ A' n' c', e = .returned (.tuple #[dv N A' n' c' X, .int .i64 (E : Int)]) ∧ Res w' base A' n' c' L)
    (h : Calls Tryz.prog f args V fun e w' => ToldP P e w' V.heap.size ∧ Below V.heap.size V w') : Ans f args V N X E L := by
  refine Calls.mono h ?_
  rintro e w' ⟨h1, hb⟩
  obtain ⟨A', n', c', rfl, hr⟩ := hT _ _ _ h1
  exact ⟨A', n', c', rfl, hr.rd.more (fun b h => h.2), hr.lt, hb⟩

set_option maxRecDepth 100000 in
set_option maxHeartbeats 8000000 in
theorem QuotTells_c {S : Nat → Prop} {n m c d : Nat} {A B : Option Addr} {xs ys : List Nat} (na nb : Bool) (e1 e2 : Int) (w : World) (ha : Rd w S A n xs) (hb : Rd w S B m ys)
    (hS : ∀ b, S b → b < w.heap.size) (hn : n ≤ 9223372036854775807) (hm : m ≤ 9223372036854775807) :
    Calls Tryz.prog 3 #[dv na A n c e1, dv nb B m d e2] w fun e w' => e = .returned (.bool true) ∧ Below w.heap.size w w' := by
  have up : ∀ {V : World}, Below w.heap.size w V → ∀ b, b < w.heap.size → b < V.heap.size := fun h b hb => by have := h.size; omega
  obtain ⟨N1, X1, E1, L1, hT1⟩ := pair_told (Uniq.chk (E := okE2 na xs e1 nb ys e2) (uq_div na (val xs) e1 nb (val ys) e2))
  have HP1 := Lib.hid (fun V (h1 : Rd V (fun b => b < V.heap.size) A n xs) (h2 : Rd V (fun b => b < V.heap.size) B m ys) => show Ans 13 #[.agg #[.bool na, .slice A n c, .int .i64 e1], .agg #[.bool nb, .slice B m d, .int .i64 e2]] V N1 X1 E1 L1 from ans_of hT1 (QDiv_c (c := c) (d := d) na nb e1 e2 V h1 h2 (fun b h => h) hn hm))
  have HR1 := Lib.hid (fun V (h1 : Rd V (fun b => b < V.heap.size) A n xs) (h2 : Rd V (fun b => b < V.heap.size) B m ys) => show Ans 14 #[.agg #[.bool na, .slice A n c, .int .i64 e1], .agg #[.bool nb, .slice B m d, .int .i64 e2]] V N1 X1 E1 L1 from ans_of hT1 ((RDiv_c (c := c) (d := d) na nb e1 e2 V h1 h2 (fun b h => h) hn hm).mono fun e w' h => ⟨tp_div h.1, h.2⟩))
  clear hT1
  obtain ⟨N2, X2, E2, L2, hT2⟩ := pair_told (Uniq.chk (E := okE2 na xs e1 nb ys e2) (uq_mod na (val xs) e1 (val ys) e2))
  have HP2 := Lib.hid (fun V (h1 : Rd V (fun b => b < V.heap.size) A n xs) (h2 : Rd V (fun b => b < V.heap.size) B m ys) => show Ans 15 #[.agg #[.bool na, .slice A n c, .int .i64 e1], .agg #[.bool nb, .slice B m d, .int .i64 e2]] V N2 X2 E2 L2 from ans_of hT2 (QMod_c (c := c) (d := d) na nb e1 e2 V h1 h2 (fun b h => h) hn hm))
  have HR2 := Lib.hid (fun V (h1 : Rd V (fun b => b < V.heap.size) A n xs) (h2 : Rd V (fun b => b < V.heap.size) B m ys) => show Ans 16 #[.agg #[.bool na, .slice A n c, .int .i64 e1], .agg #[.bool nb, .slice B m d, .int .i64 e2]] V N2 X2 E2 L2 from ans_of hT2 ((RMod_c (c := c) (d := d) na nb e1 e2 V h1 h2 (fun b h => h) hn hm).mono fun e w' h => ⟨tp_mod h.1, h.2⟩))
  clear hT2
  obtain ⟨N3, X3, E3, L3, hT3⟩ := pair_told (Uniq.chk (E := okE na xs e1) (uq_whole na (val xs) e1 (na && !decide (wr (val xs) e1 = 0))))
  have HP3 := Lib.hid (fun V (h1 : Rd V (fun b => b < V.heap.size) A n xs) => show Ans 17 #[.agg #[.bool na, .slice A n c, .int .i64 e1]] V N3 X3 E3 L3 from ans_of hT3 (QFloor_c (c := c) na e1 V h1 (fun b h => h) hn))
  have HR3 := Lib.hid (fun V (h1 : Rd V (fun b => b < V.heap.size) A n xs) => show Ans 18 #[.agg #[.bool na, .slice A n c, .int .i64 e1]] V N3 X3 E3 L3 from ans_of hT3 ((RFloor_c (c := c) na e1 V h1 (fun b h => h) hn).mono fun e w' h => ⟨tp_whole h.1, h.2⟩))
  clear hT3
  obtain ⟨N4, X4, E4, L4, hT4⟩ := pair_told (Uniq.chk (E := okE na xs e1) (uq_whole na (val xs) e1 (!na && !decide (wr (val xs) e1 = 0))))
  have HP4 := Lib.hid (fun V (h1 : Rd V (fun b => b < V.heap.size) A n xs) => show Ans 19 #[.agg #[.bool na, .slice A n c, .int .i64 e1]] V N4 X4 E4 L4 from ans_of hT4 (QCeil_c (c := c) na e1 V h1 (fun b h => h) hn))
  have HR4 := Lib.hid (fun V (h1 : Rd V (fun b => b < V.heap.size) A n xs) => show Ans 20 #[.agg #[.bool na, .slice A n c, .int .i64 e1]] V N4 X4 E4 L4 from ans_of hT4 ((RCeil_c (c := c) na e1 V h1 (fun b h => h) hn).mono fun e w' h => ⟨tp_whole h.1, h.2⟩))
  clear hT4
  obtain ⟨N5, X5, E5, L5, hT5⟩ := pair_told (Uniq.chk (E := okE na xs e1) (uq_whole na (val xs) e1 (decide (0 ≤ half (wr (val xs) e1) (wd 1 (-e1))))))
  have HP5 := Lib.hid (fun V (h1 : Rd V (fun b => b < V.heap.size) A n xs) => show Ans 23 #[.agg #[.bool na, .slice A n c, .int .i64 e1]] V N5 X5 E5 L5 from ans_of hT5 (QRound_c (c := c) na e1 V h1 (fun b h => h) hn))
  have HR5 := Lib.hid (fun V (h1 : Rd V (fun b => b < V.heap.size) A n xs) => show Ans 24 #[.agg #[.bool na, .slice A n c, .int .i64 e1]] V N5 X5 E5 L5 from ans_of hT5 ((RRound_c (c := c) na e1 V h1 (fun b h => h) hn).mono fun e w' h => ⟨tp_whole h.1, h.2⟩))
  clear hT5
  obtain ⟨N6, X6, E6, L6, hT6⟩ := pair_told (Uniq.chk (E := okE na xs e1) (uq_sqrt na (val xs) e1))
  have HP6 := Lib.hid (fun V (h1 : Rd V (fun b => b < V.heap.size) A n xs) => show Ans 25 #[.agg #[.bool na, .slice A n c, .int .i64 e1]] V N6 X6 E6 L6 from ans_of hT6 (QSqrt_c (c := c) na e1 V h1 (fun b h => h) hn))
  have HR6 := Lib.hid (fun V (h1 : Rd V (fun b => b < V.heap.size) A n xs) => show Ans 26 #[.agg #[.bool na, .slice A n c, .int .i64 e1]] V N6 X6 E6 L6 from ans_of hT6 (RSqrt_c (c := c) na e1 V h1 (fun b h => h) hn))
  clear hT6
  obtain ⟨N7, X7, E7, L7, hT7⟩ := pair_told (Uniq.chk (E := okE na xs e1) (uq_abs (val xs) e1))
  have HP7 := Lib.hid (fun V (h1 : Rd V (fun b => b < V.heap.size) A n xs) => show Ans 27 #[.agg #[.bool na, .slice A n c, .int .i64 e1]] V N7 X7 E7 L7 from ans_of hT7 (QAbs_c (c := c) na e1 V h1 (fun b h => h) hn))
  have HR7 := Lib.hid (fun V (h1 : Rd V (fun b => b < V.heap.size) A n xs) => show Ans 28 #[.agg #[.bool na, .slice A n c, .int .i64 e1]] V N7 X7 E7 L7 from ans_of hT7 (RAbsT_c (c := c) na e1 V h1 (fun b h => h) hn))
  clear hT7
  have hW : Below w.heap.size w ((w.alloc (.cells #[.bool na, .slice A n c, .int .i64 e1] 24)).alloc (.cells #[.bool nb, .slice B m d, .int .i64 e2] 24)) := ((Below.refl w.heap.size w).alloc (Nat.le_refl _) _).alloc (by simp) _
  obtain ⟨ma, mb⟩ := two_new w (.cells #[.bool na, .slice A n c, .int .i64 e1] 24) (.cells #[.bool nb, .slice B m d, .int .i64 e2] 24)
  unfold dv
  go_enter Tryz.func3, Tryz.ntmps3
  go_upto_region 1 with fail
  generalize ((w.alloc (.cells #[.bool na, .slice A n c, .int .i64 e1] 24)).alloc (.cells #[.bool nb, .slice B m d, .int .i64 e2] 24)) = w0 at ma mb hW ⊢
  have hB := hW
  have ra : Rd w0 (fun b => b < w0.heap.size) A n xs := (ha.below hB hS).more (fun b h => up hB b (hS b h))
  have rb : Rd w0 (fun b => b < w0.heap.size) B m ys := (hb.below hB hS).more (fun b h => up hB b (hS b h))
  clear hW ha hb hS up hn hm
  obtain ⟨xa0, xa1, xa2⟩ := box3_of ma
  obtain ⟨xb0, xb1, xb2⟩ := box3_of mb
  go_wp2_with fail
  clear xa0 xa1 xa2 xb0 xb1 xb2
  refine Calls.mono (HP1.out w0 ra rb) ?_
  rintro e w1 ⟨Ap1, np1, cp1, rfl, rp1, hnp1, hb0⟩
  have ma := heldz hb0 ma
  have mb := heldz hb0 mb
  have ra := ra.step hb0
  have rb := rb.step hb0
  have hB := hB.trans (hb0.mono hB.size)
  clear hb0 HP1
  dsimp only [dv]
  go_upto_region 2 with fail
  have hal : Below w1.heap.size w1 (w1.alloc (.cells #[.bool N1, .slice Ap1 np1 cp1, .int .i64 X1] 24)) := (Below.refl _ _).alloc (Nat.le_refl _) _
  have ma := heldz hal ma
  have mb := heldz hal mb
  have ra := ra.step hal
  have rb := rb.step hal
  have rp1 := rp1.step hal
  have mp1 := World.alloc_heap_new w1 (.cells #[.bool N1, .slice Ap1 np1 cp1, .int .i64 X1] 24)
  have hB := hB.trans (hal.mono hB.size)
  clear hal
  generalize w1.alloc (.cells #[.bool N1, .slice Ap1 np1 cp1, .int .i64 X1] 24) = w2 at ma mb mp1 ra rb rp1  hB ⊢
  obtain ⟨xa0, xa1, xa2⟩ := box3_of ma
  obtain ⟨xb0, xb1, xb2⟩ := box3_of mb
  go_wp2_with fail
  clear xa0 xa1 xa2 xb0 xb1 xb2
  refine Calls.mono (HR1.out w2 ra rb) ?_
  rintro e w3 ⟨Ar1, nr1, cr1, rfl, rr1, hnr1, hb0⟩
  have ma := heldz hb0 ma
  have mb := heldz hb0 mb
  have mp1 := heldz hb0 mp1
  have ra := ra.step hb0
  have rb := rb.step hb0
  have rp1 := rp1.step hb0
  have hB := hB.trans (hb0.mono hB.size)
  clear hb0 HR1
  dsimp only [dv]
  go_upto_region 3 with fail
  have hal : Below w3.heap.size w3 (w3.alloc (.cells #[.bool N1, .slice Ar1 nr1 cr1, .int .i64 X1] 24)) := (Below.refl _ _).alloc (Nat.le_refl _) _
  have ma := heldz hal ma
  have mb := heldz hal mb
  have mp1 := heldz hal mp1
  have ra := ra.step hal
  have rb := rb.step hal
  have rp1 := rp1.step hal
  have rr1 := rr1.step hal
  have mr1 := World.alloc_heap_new w3 (.cells #[.bool N1, .slice Ar1 nr1 cr1, .int .i64 X1] 24)
  have hB := hB.trans (hal.mono hB.size)
  clear hal
  generalize w3.alloc (.cells #[.bool N1, .slice Ar1 nr1 cr1, .int .i64 X1] 24) = w4 at ma mb mp1 mr1 ra rb rp1 rr1  hB ⊢
  obtain ⟨xa0, xa1, xa2⟩ := box3_of ma
  obtain ⟨xb0, xb1, xb2⟩ := box3_of mb
  go_wp2_with fail
  clear xa0 xa1 xa2 xb0 xb1 xb2
  refine Calls.mono (HP2.out w4 ra rb) ?_
  rintro e w5 ⟨Ap2, np2, cp2, rfl, rp2, hnp2, hb0⟩
  have ma := heldz hb0 ma
  have mb := heldz hb0 mb
  have mp1 := heldz hb0 mp1
  have mr1 := heldz hb0 mr1
  have ra := ra.step hb0
  have rb := rb.step hb0
  have rp1 := rp1.step hb0
  have rr1 := rr1.step hb0
  have hB := hB.trans (hb0.mono hB.size)
  clear hb0 HP2
  dsimp only [dv]
  go_upto_region 4 with fail
  have hal : Below w5.heap.size w5 (w5.alloc (.cells #[.bool N2, .slice Ap2 np2 cp2, .int .i64 X2] 24)) := (Below.refl _ _).alloc (Nat.le_refl _) _
  have ma := heldz hal ma
  have mb := heldz hal mb
  have mp1 := heldz hal mp1
  have mr1 := heldz hal mr1
  have ra := ra.step hal
  have rb := rb.step hal
  have rp1 := rp1.step hal
  have rr1 := rr1.step hal
  have rp2 := rp2.step hal
  have mp2 := World.alloc_heap_new w5 (.cells #[.bool N2, .slice Ap2 np2 cp2, .int .i64 X2] 24)
  have hB := hB.trans (hal.mono hB.size)
  clear hal
  generalize w5.alloc (.cells #[.bool N2, .slice Ap2 np2 cp2, .int .i64 X2] 24) = w6 at ma mb mp1 mr1 mp2 ra rb rp1 rr1 rp2  hB ⊢
  obtain ⟨xa0, xa1, xa2⟩ := box3_of ma
  obtain ⟨xb0, xb1, xb2⟩ := box3_of mb
  go_wp2_with fail
  clear xa0 xa1 xa2 xb0 xb1 xb2
  refine Calls.mono (HR2.out w6 ra rb) ?_
  rintro e w7 ⟨Ar2, nr2, cr2, rfl, rr2, hnr2, hb0⟩
  have ma := heldz hb0 ma
  have mb := heldz hb0 mb
  have mp1 := heldz hb0 mp1
  have mr1 := heldz hb0 mr1
  have mp2 := heldz hb0 mp2
  have ra := ra.step hb0
  have rb := rb.step hb0
  have rp1 := rp1.step hb0
  have rr1 := rr1.step hb0
  have rp2 := rp2.step hb0
  have hB := hB.trans (hb0.mono hB.size)
  clear hb0 HR2
  dsimp only [dv]
  go_upto_region 5 with fail
  have hal : Below w7.heap.size w7 (w7.alloc (.cells #[.bool N2, .slice Ar2 nr2 cr2, .int .i64 X2] 24)) := (Below.refl _ _).alloc (Nat.le_refl _) _
  have ma := heldz hal ma
  have mb := heldz hal mb
  have mp1 := heldz hal mp1
  have mr1 := heldz hal mr1
  have mp2 := heldz hal mp2
  have ra := ra.step hal
  have rb := rb.step hal
  have rp1 := rp1.step hal
  have rr1 := rr1.step hal
  have rp2 := rp2.step hal
  have rr2 := rr2.step hal
  have mr2 := World.alloc_heap_new w7 (.cells #[.bool N2, .slice Ar2 nr2 cr2, .int .i64 X2] 24)
  have hB := hB.trans (hal.mono hB.size)
  clear hal
  generalize w7.alloc (.cells #[.bool N2, .slice Ar2 nr2 cr2, .int .i64 X2] 24) = w8 at ma mb mp1 mr1 mp2 mr2 ra rb rp1 rr1 rp2 rr2  hB ⊢
  obtain ⟨xa0, xa1, xa2⟩ := box3_of ma
  go_wp2_with fail
  clear xa0 xa1 xa2
  refine Calls.mono (HP3.out w8 ra) ?_
  rintro e w9 ⟨Ap3, np3, cp3, rfl, rp3, hnp3, hb0⟩
  have ma := heldz hb0 ma
  have mb := heldz hb0 mb
  have mp1 := heldz hb0 mp1
  have mr1 := heldz hb0 mr1
  have mp2 := heldz hb0 mp2
  have mr2 := heldz hb0 mr2
  have ra := ra.step hb0
  have rb := rb.step hb0
  have rp1 := rp1.step hb0
  have rr1 := rr1.step hb0
  have rp2 := rp2.step hb0
  have rr2 := rr2.step hb0
  have hB := hB.trans (hb0.mono hB.size)
  clear hb0 HP3
  dsimp only [dv]
  go_upto_region 6 with fail
  have hal : Below w9.heap.size w9 (w9.alloc (.cells #[.bool N3, .slice Ap3 np3 cp3, .int .i64 X3] 24)) := (Below.refl _ _).alloc (Nat.le_refl _) _
  have ma := heldz hal ma
  have mb := heldz hal mb
  have mp1 := heldz hal mp1
  have mr1 := heldz hal mr1
  have mp2 := heldz hal mp2
  have mr2 := heldz hal mr2
  have ra := ra.step hal
  have rb := rb.step hal
  have rp1 := rp1.step hal
  have rr1 := rr1.step hal
  have rp2 := rp2.step hal
  have rr2 := rr2.step hal
  have rp3 := rp3.step hal
  have mp3 := World.alloc_heap_new w9 (.cells #[.bool N3, .slice Ap3 np3 cp3, .int .i64 X3] 24)
  have hB := hB.trans (hal.mono hB.size)
  clear hal
  generalize w9.alloc (.cells #[.bool N3, .slice Ap3 np3 cp3, .int .i64 X3] 24) = w10 at ma mb mp1 mr1 mp2 mr2 mp3 ra rb rp1 rr1 rp2 rr2 rp3  hB ⊢
  obtain ⟨xa0, xa1, xa2⟩ := box3_of ma
  go_wp2_with fail
  clear xa0 xa1 xa2
  refine Calls.mono (HR3.out w10 ra) ?_
  rintro e w11 ⟨Ar3, nr3, cr3, rfl, rr3, hnr3, hb0⟩
  have ma := heldz hb0 ma
  have mb := heldz hb0 mb
  have mp1 := heldz hb0 mp1
  have mr1 := heldz hb0 mr1
  have mp2 := heldz hb0 mp2
  have mr2 := heldz hb0 mr2
  have mp3 := heldz hb0 mp3
  have ra := ra.step hb0
  have rb := rb.step hb0
  have rp1 := rp1.step hb0
  have rr1 := rr1.step hb0
  have rp2 := rp2.step hb0
  have rr2 := rr2.step hb0
  have rp3 := rp3.step hb0
  have hB := hB.trans (hb0.mono hB.size)
  clear hb0 HR3
  dsimp only [dv]
  go_upto_region 7 with fail
  have hal : Below w11.heap.size w11 (w11.alloc (.cells #[.bool N3, .slice Ar3 nr3 cr3, .int .i64 X3] 24)) := (Below.refl _ _).alloc (Nat.le_refl _) _
  have ma := heldz hal ma
  have mb := heldz hal mb
  have mp1 := heldz hal mp1
  have mr1 := heldz hal mr1
  have mp2 := heldz hal mp2
  have mr2 := heldz hal mr2
  have mp3 := heldz hal mp3
  have ra := ra.step hal
  have rb := rb.step hal
  have rp1 := rp1.step hal
  have rr1 := rr1.step hal
  have rp2 := rp2.step hal
  have rr2 := rr2.step hal
  have rp3 := rp3.step hal
  have rr3 := rr3.step hal
  have mr3 := World.alloc_heap_new w11 (.cells #[.bool N3, .slice Ar3 nr3 cr3, .int .i64 X3] 24)
  have hB := hB.trans (hal.mono hB.size)
  clear hal
  generalize w11.alloc (.cells #[.bool N3, .slice Ar3 nr3 cr3, .int .i64 X3] 24) = w12 at ma mb mp1 mr1 mp2 mr2 mp3 mr3 ra rb rp1 rr1 rp2 rr2 rp3 rr3  hB ⊢
  obtain ⟨xa0, xa1, xa2⟩ := box3_of ma
  go_wp2_with fail
  clear xa0 xa1 xa2
  refine Calls.mono (HP4.out w12 ra) ?_
  rintro e w13 ⟨Ap4, np4, cp4, rfl, rp4, hnp4, hb0⟩
  have ma := heldz hb0 ma
  have mb := heldz hb0 mb
  have mp1 := heldz hb0 mp1
  have mr1 := heldz hb0 mr1
  have mp2 := heldz hb0 mp2
  have mr2 := heldz hb0 mr2
  have mp3 := heldz hb0 mp3
  have mr3 := heldz hb0 mr3
  have ra := ra.step hb0
  have rb := rb.step hb0
  have rp1 := rp1.step hb0
  have rr1 := rr1.step hb0
  have rp2 := rp2.step hb0
  have rr2 := rr2.step hb0
  have rp3 := rp3.step hb0
  have rr3 := rr3.step hb0
  have hB := hB.trans (hb0.mono hB.size)
  clear hb0 HP4
  dsimp only [dv]
  go_upto_region 8 with fail
  have hal : Below w13.heap.size w13 (w13.alloc (.cells #[.bool N4, .slice Ap4 np4 cp4, .int .i64 X4] 24)) := (Below.refl _ _).alloc (Nat.le_refl _) _
  have ma := heldz hal ma
  have mb := heldz hal mb
  have mp1 := heldz hal mp1
  have mr1 := heldz hal mr1
  have mp2 := heldz hal mp2
  have mr2 := heldz hal mr2
  have mp3 := heldz hal mp3
  have mr3 := heldz hal mr3
  have ra := ra.step hal
  have rb := rb.step hal
  have rp1 := rp1.step hal
  have rr1 := rr1.step hal
  have rp2 := rp2.step hal
  have rr2 := rr2.step hal
  have rp3 := rp3.step hal
  have rr3 := rr3.step hal
  have rp4 := rp4.step hal
  have mp4 := World.alloc_heap_new w13 (.cells #[.bool N4, .slice Ap4 np4 cp4, .int .i64 X4] 24)
  have hB := hB.trans (hal.mono hB.size)
  clear hal
  generalize w13.alloc (.cells #[.bool N4, .slice Ap4 np4 cp4, .int .i64 X4] 24) = w14 at ma mb mp1 mr1 mp2 mr2 mp3 mr3 mp4 ra rb rp1 rr1 rp2 rr2 rp3 rr3 rp4  hB ⊢
  obtain ⟨xa0, xa1, xa2⟩ := box3_of ma
  go_wp2_with fail
  clear xa0 xa1 xa2
  refine Calls.mono (HR4.out w14 ra) ?_
  rintro e w15 ⟨Ar4, nr4, cr4, rfl, rr4, hnr4, hb0⟩
  have ma := heldz hb0 ma
  have mb := heldz hb0 mb
  have mp1 := heldz hb0 mp1
  have mr1 := heldz hb0 mr1
  have mp2 := heldz hb0 mp2
  have mr2 := heldz hb0 mr2
  have mp3 := heldz hb0 mp3
  have mr3 := heldz hb0 mr3
  have mp4 := heldz hb0 mp4
  have ra := ra.step hb0
  have rb := rb.step hb0
  have rp1 := rp1.step hb0
  have rr1 := rr1.step hb0
  have rp2 := rp2.step hb0
  have rr2 := rr2.step hb0
  have rp3 := rp3.step hb0
  have rr3 := rr3.step hb0
  have rp4 := rp4.step hb0
  have hB := hB.trans (hb0.mono hB.size)
  clear hb0 HR4
  dsimp only [dv]
  go_upto_region 9 with fail
  have hal : Below w15.heap.size w15 (w15.alloc (.cells #[.bool N4, .slice Ar4 nr4 cr4, .int .i64 X4] 24)) := (Below.refl _ _).alloc (Nat.le_refl _) _
  have ma := heldz hal ma
  have mb := heldz hal mb
  have mp1 := heldz hal mp1
  have mr1 := heldz hal mr1
  have mp2 := heldz hal mp2
  have mr2 := heldz hal mr2
  have mp3 := heldz hal mp3
  have mr3 := heldz hal mr3
  have mp4 := heldz hal mp4
  have ra := ra.step hal
  have rb := rb.step hal
  have rp1 := rp1.step hal
  have rr1 := rr1.step hal
  have rp2 := rp2.step hal
  have rr2 := rr2.step hal
  have rp3 := rp3.step hal
  have rr3 := rr3.step hal
  have rp4 := rp4.step hal
  have rr4 := rr4.step hal
  have mr4 := World.alloc_heap_new w15 (.cells #[.bool N4, .slice Ar4 nr4 cr4, .int .i64 X4] 24)
  have hB := hB.trans (hal.mono hB.size)
  clear hal
  generalize w15.alloc (.cells #[.bool N4, .slice Ar4 nr4 cr4, .int .i64 X4] 24) = w16 at ma mb mp1 mr1 mp2 mr2 mp3 mr3 mp4 mr4 ra rb rp1 rr1 rp2 rr2 rp3 rr3 rp4 rr4  hB ⊢
  obtain ⟨xp10, xp11, xp12⟩ := box3_of mp1
  obtain ⟨xr10, xr11, xr12⟩ := box3_of mr1
  go_wp2_with fail
  clear xp10 xp11 xp12 xr10 xr11 xr12
  have H := DSame_eq (c := cp1) (d := cr1) N1 X1 w16 rp1 rr1 (fun b h => h) (fun b h => h) hnp1 hnr1
  unfold dv at H
  refine H.mono ?_
  rintro e w17 ⟨rfl, hb0⟩
  clear H
  have ma := heldz hb0 ma
  have mb := heldz hb0 mb
  have mp1 := heldz hb0 mp1
  have mr1 := heldz hb0 mr1
  have mp2 := heldz hb0 mp2
  have mr2 := heldz hb0 mr2
  have mp3 := heldz hb0 mp3
  have mr3 := heldz hb0 mr3
  have mp4 := heldz hb0 mp4
  have mr4 := heldz hb0 mr4
  have ra := ra.step hb0
  have rb := rb.step hb0
  have rp1 := rp1.step hb0
  have rr1 := rr1.step hb0
  have rp2 := rp2.step hb0
  have rr2 := rr2.step hb0
  have rp3 := rp3.step hb0
  have rr3 := rr3.step hb0
  have rp4 := rp4.step hb0
  have rr4 := rr4.step hb0
  have hB := hB.trans (hb0.mono hB.size)
  clear hb0
  clear mp1 mr1 rp1 rr1
  obtain ⟨xp20, xp21, xp22⟩ := box3_of mp2
  obtain ⟨xr20, xr21, xr22⟩ := box3_of mr2
  go_wp2_with (go_at_call 22; refine (num3_c _ _).mono ?_; rintro e w' ⟨rfl, rfl⟩)
  clear xp20 xp21 xp22 xr20 xr21 xr22
  have H := DSame_eq (c := cp2) (d := cr2) N2 X2 w17 rp2 rr2 (fun b h => h) (fun b h => h) hnp2 hnr2
  unfold dv at H
  refine H.mono ?_
  rintro e w18 ⟨rfl, hb0⟩
  clear H
  have ma := heldz hb0 ma
  have mb := heldz hb0 mb
  have mp2 := heldz hb0 mp2
  have mr2 := heldz hb0 mr2
  have mp3 := heldz hb0 mp3
  have mr3 := heldz hb0 mr3
  have mp4 := heldz hb0 mp4
  have mr4 := heldz hb0 mr4
  have ra := ra.step hb0
  have rb := rb.step hb0
  have rp2 := rp2.step hb0
  have rr2 := rr2.step hb0
  have rp3 := rp3.step hb0
  have rr3 := rr3.step hb0
  have rp4 := rp4.step hb0
  have rr4 := rr4.step hb0
  have hB := hB.trans (hb0.mono hB.size)
  clear hb0
  clear mp2 mr2 rp2 rr2
  obtain ⟨xp30, xp31, xp32⟩ := box3_of mp3
  obtain ⟨xr30, xr31, xr32⟩ := box3_of mr3
  go_wp2_with (go_at_call 22; refine (num3_c _ _).mono ?_; rintro e w' ⟨rfl, rfl⟩)
  clear xp30 xp31 xp32 xr30 xr31 xr32
  have H := DSame_eq (c := cp3) (d := cr3) N3 X3 w18 rp3 rr3 (fun b h => h) (fun b h => h) hnp3 hnr3
  unfold dv at H
  refine H.mono ?_
  rintro e w19 ⟨rfl, hb0⟩
  clear H
  have ma := heldz hb0 ma
  have mb := heldz hb0 mb
  have mp3 := heldz hb0 mp3
  have mr3 := heldz hb0 mr3
  have mp4 := heldz hb0 mp4
  have mr4 := heldz hb0 mr4
  have ra := ra.step hb0
  have rb := rb.step hb0
  have rp3 := rp3.step hb0
  have rr3 := rr3.step hb0
  have rp4 := rp4.step hb0
  have rr4 := rr4.step hb0
  have hB := hB.trans (hb0.mono hB.size)
  clear hb0
  clear mp3 mr3 rp3 rr3
  obtain ⟨xp40, xp41, xp42⟩ := box3_of mp4
  obtain ⟨xr40, xr41, xr42⟩ := box3_of mr4
  go_wp2_with (go_at_call 22; refine (num3_c _ _).mono ?_; rintro e w' ⟨rfl, rfl⟩)
  clear xp40 xp41 xp42 xr40 xr41 xr42
  have H := DSame_eq (c := cp4) (d := cr4) N4 X4 w19 rp4 rr4 (fun b h => h) (fun b h => h) hnp4 hnr4
  unfold dv at H
  refine H.mono ?_
  rintro e w20 ⟨rfl, hb0⟩
  clear H
  have ma := heldz hb0 ma
  have mb := heldz hb0 mb
  have mp4 := heldz hb0 mp4
  have mr4 := heldz hb0 mr4
  have ra := ra.step hb0
  have rb := rb.step hb0
  have rp4 := rp4.step hb0
  have rr4 := rr4.step hb0
  have hB := hB.trans (hb0.mono hB.size)
  clear hb0
  clear mp4 mr4 rp4 rr4
  go_upto_region 11 with (go_at_call 22; refine (num3_c _ _).mono ?_; rintro e w' ⟨rfl, rfl⟩)
  obtain ⟨xa0, xa1, xa2⟩ := box3_of ma
  go_wp2_with fail
  clear xa0 xa1 xa2
  refine Calls.mono (HP5.out w20 ra) ?_
  rintro e w21 ⟨Ap5, np5, cp5, rfl, rp5, hnp5, hb0⟩
  have ma := heldz hb0 ma
  have mb := heldz hb0 mb
  have ra := ra.step hb0
  have rb := rb.step hb0
  have hB := hB.trans (hb0.mono hB.size)
  clear hb0 HP5
  dsimp only [dv]
  go_upto_region 12 with fail
  have hal : Below w21.heap.size w21 (w21.alloc (.cells #[.bool N5, .slice Ap5 np5 cp5, .int .i64 X5] 24)) := (Below.refl _ _).alloc (Nat.le_refl _) _
  have ma := heldz hal ma
  have mb := heldz hal mb
  have ra := ra.step hal
  have rb := rb.step hal
  have rp5 := rp5.step hal
  have mp5 := World.alloc_heap_new w21 (.cells #[.bool N5, .slice Ap5 np5 cp5, .int .i64 X5] 24)
  have hB := hB.trans (hal.mono hB.size)
  clear hal
  generalize w21.alloc (.cells #[.bool N5, .slice Ap5 np5 cp5, .int .i64 X5] 24) = w22 at ma mb mp5 ra rb rp5  hB ⊢
  obtain ⟨xa0, xa1, xa2⟩ := box3_of ma
  go_wp2_with fail
  clear xa0 xa1 xa2
  refine Calls.mono (HR5.out w22 ra) ?_
  rintro e w23 ⟨Ar5, nr5, cr5, rfl, rr5, hnr5, hb0⟩
  have ma := heldz hb0 ma
  have mb := heldz hb0 mb
  have mp5 := heldz hb0 mp5
  have ra := ra.step hb0
  have rb := rb.step hb0
  have rp5 := rp5.step hb0
  have hB := hB.trans (hb0.mono hB.size)
  clear hb0 HR5
  dsimp only [dv]
  go_upto_region 13 with fail
  have hal : Below w23.heap.size w23 (w23.alloc (.cells #[.bool N5, .slice Ar5 nr5 cr5, .int .i64 X5] 24)) := (Below.refl _ _).alloc (Nat.le_refl _) _
  have ma := heldz hal ma
  have mb := heldz hal mb
  have mp5 := heldz hal mp5
  have ra := ra.step hal
  have rb := rb.step hal
  have rp5 := rp5.step hal
  have rr5 := rr5.step hal
  have mr5 := World.alloc_heap_new w23 (.cells #[.bool N5, .slice Ar5 nr5 cr5, .int .i64 X5] 24)
  have hB := hB.trans (hal.mono hB.size)
  clear hal
  generalize w23.alloc (.cells #[.bool N5, .slice Ar5 nr5 cr5, .int .i64 X5] 24) = w24 at ma mb mp5 mr5 ra rb rp5 rr5  hB ⊢
  obtain ⟨xa0, xa1, xa2⟩ := box3_of ma
  go_wp2_with fail
  clear xa0 xa1 xa2
  refine Calls.mono (HP6.out w24 ra) ?_
  rintro e w25 ⟨Ap6, np6, cp6, rfl, rp6, hnp6, hb0⟩
  have ma := heldz hb0 ma
  have mb := heldz hb0 mb
  have mp5 := heldz hb0 mp5
  have mr5 := heldz hb0 mr5
  have ra := ra.step hb0
  have rb := rb.step hb0
  have rp5 := rp5.step hb0
  have rr5 := rr5.step hb0
  have hB := hB.trans (hb0.mono hB.size)
  clear hb0 HP6
  dsimp only [dv]
  go_upto_region 14 with fail
  have hal : Below w25.heap.size w25 (w25.alloc (.cells #[.bool N6, .slice Ap6 np6 cp6, .int .i64 X6] 24)) := (Below.refl _ _).alloc (Nat.le_refl _) _
  have ma := heldz hal ma
  have mb := heldz hal mb
  have mp5 := heldz hal mp5
  have mr5 := heldz hal mr5
  have ra := ra.step hal
  have rb := rb.step hal
  have rp5 := rp5.step hal
  have rr5 := rr5.step hal
  have rp6 := rp6.step hal
  have mp6 := World.alloc_heap_new w25 (.cells #[.bool N6, .slice Ap6 np6 cp6, .int .i64 X6] 24)
  have hB := hB.trans (hal.mono hB.size)
  clear hal
  generalize w25.alloc (.cells #[.bool N6, .slice Ap6 np6 cp6, .int .i64 X6] 24) = w26 at ma mb mp5 mr5 mp6 ra rb rp5 rr5 rp6  hB ⊢
  obtain ⟨xa0, xa1, xa2⟩ := box3_of ma
  go_wp2_with fail
  clear xa0 xa1 xa2
  refine Calls.mono (HR6.out w26 ra) ?_
  rintro e w27 ⟨Ar6, nr6, cr6, rfl, rr6, hnr6, hb0⟩
  have ma := heldz hb0 ma
  have mb := heldz hb0 mb
  have mp5 := heldz hb0 mp5
  have mr5 := heldz hb0 mr5
  have mp6 := heldz hb0 mp6
  have ra := ra.step hb0
  have rb := rb.step hb0
  have rp5 := rp5.step hb0
  have rr5 := rr5.step hb0
  have rp6 := rp6.step hb0
  have hB := hB.trans (hb0.mono hB.size)
  clear hb0 HR6
  dsimp only [dv]
  go_upto_region 15 with fail
  have hal : Below w27.heap.size w27 (w27.alloc (.cells #[.bool N6, .slice Ar6 nr6 cr6, .int .i64 X6] 24)) := (Below.refl _ _).alloc (Nat.le_refl _) _
  have ma := heldz hal ma
  have mb := heldz hal mb
  have mp5 := heldz hal mp5
  have mr5 := heldz hal mr5
  have mp6 := heldz hal mp6
  have ra := ra.step hal
  have rb := rb.step hal
  have rp5 := rp5.step hal
  have rr5 := rr5.step hal
  have rp6 := rp6.step hal
  have rr6 := rr6.step hal
  have mr6 := World.alloc_heap_new w27 (.cells #[.bool N6, .slice Ar6 nr6 cr6, .int .i64 X6] 24)
  have hB := hB.trans (hal.mono hB.size)
  clear hal
  generalize w27.alloc (.cells #[.bool N6, .slice Ar6 nr6 cr6, .int .i64 X6] 24) = w28 at ma mb mp5 mr5 mp6 mr6 ra rb rp5 rr5 rp6 rr6  hB ⊢
  obtain ⟨xa0, xa1, xa2⟩ := box3_of ma
  go_wp2_with fail
  clear xa0 xa1 xa2
  refine Calls.mono (HP7.out w28 ra) ?_
  rintro e w29 ⟨Ap7, np7, cp7, rfl, rp7, hnp7, hb0⟩
  have ma := heldz hb0 ma
  have mb := heldz hb0 mb
  have mp5 := heldz hb0 mp5
  have mr5 := heldz hb0 mr5
  have mp6 := heldz hb0 mp6
  have mr6 := heldz hb0 mr6
  have ra := ra.step hb0
  have rb := rb.step hb0
  have rp5 := rp5.step hb0
  have rr5 := rr5.step hb0
  have rp6 := rp6.step hb0
  have rr6 := rr6.step hb0
  have hB := hB.trans (hb0.mono hB.size)
  clear hb0 HP7
  dsimp only [dv]
  go_upto_region 16 with fail
  have hal : Below w29.heap.size w29 (w29.alloc (.cells #[.bool N7, .slice Ap7 np7 cp7, .int .i64 X7] 24)) := (Below.refl _ _).alloc (Nat.le_refl _) _
  have ma := heldz hal ma
  have mb := heldz hal mb
  have mp5 := heldz hal mp5
  have mr5 := heldz hal mr5
  have mp6 := heldz hal mp6
  have mr6 := heldz hal mr6
  have ra := ra.step hal
  have rb := rb.step hal
  have rp5 := rp5.step hal
  have rr5 := rr5.step hal
  have rp6 := rp6.step hal
  have rr6 := rr6.step hal
  have rp7 := rp7.step hal
  have mp7 := World.alloc_heap_new w29 (.cells #[.bool N7, .slice Ap7 np7 cp7, .int .i64 X7] 24)
  have hB := hB.trans (hal.mono hB.size)
  clear hal
  generalize w29.alloc (.cells #[.bool N7, .slice Ap7 np7 cp7, .int .i64 X7] 24) = w30 at ma mb mp5 mr5 mp6 mr6 mp7 ra rb rp5 rr5 rp6 rr6 rp7  hB ⊢
  obtain ⟨xa0, xa1, xa2⟩ := box3_of ma
  go_wp2_with fail
  clear xa0 xa1 xa2
  refine Calls.mono (HR7.out w30 ra) ?_
  rintro e w31 ⟨Ar7, nr7, cr7, rfl, rr7, hnr7, hb0⟩
  have ma := heldz hb0 ma
  have mb := heldz hb0 mb
  have mp5 := heldz hb0 mp5
  have mr5 := heldz hb0 mr5
  have mp6 := heldz hb0 mp6
  have mr6 := heldz hb0 mr6
  have mp7 := heldz hb0 mp7
  have ra := ra.step hb0
  have rb := rb.step hb0
  have rp5 := rp5.step hb0
  have rr5 := rr5.step hb0
  have rp6 := rp6.step hb0
  have rr6 := rr6.step hb0
  have rp7 := rp7.step hb0
  have hB := hB.trans (hb0.mono hB.size)
  clear hb0 HR7
  dsimp only [dv]
  go_upto_region 17 with fail
  have hal : Below w31.heap.size w31 (w31.alloc (.cells #[.bool N7, .slice Ar7 nr7 cr7, .int .i64 X7] 24)) := (Below.refl _ _).alloc (Nat.le_refl _) _
  have ma := heldz hal ma
  have mb := heldz hal mb
  have mp5 := heldz hal mp5
  have mr5 := heldz hal mr5
  have mp6 := heldz hal mp6
  have mr6 := heldz hal mr6
  have mp7 := heldz hal mp7
  have ra := ra.step hal
  have rb := rb.step hal
  have rp5 := rp5.step hal
  have rr5 := rr5.step hal
  have rp6 := rp6.step hal
  have rr6 := rr6.step hal
  have rp7 := rp7.step hal
  have rr7 := rr7.step hal
  have mr7 := World.alloc_heap_new w31 (.cells #[.bool N7, .slice Ar7 nr7 cr7, .int .i64 X7] 24)
  have hB := hB.trans (hal.mono hB.size)
  clear hal
  generalize w31.alloc (.cells #[.bool N7, .slice Ar7 nr7 cr7, .int .i64 X7] 24) = w32 at ma mb mp5 mr5 mp6 mr6 mp7 mr7 ra rb rp5 rr5 rp6 rr6 rp7 rr7  hB ⊢
  obtain ⟨xp50, xp51, xp52⟩ := box3_of mp5
  obtain ⟨xr50, xr51, xr52⟩ := box3_of mr5
  go_wp2_with fail
  clear xp50 xp51 xp52 xr50 xr51 xr52
  have H := DSame_eq (c := cp5) (d := cr5) N5 X5 w32 rp5 rr5 (fun b h => h) (fun b h => h) hnp5 hnr5
  unfold dv at H
  refine H.mono ?_
  rintro e w33 ⟨rfl, hb0⟩
  clear H
  have ma := heldz hb0 ma
  have mb := heldz hb0 mb
  have mp5 := heldz hb0 mp5
  have mr5 := heldz hb0 mr5
  have mp6 := heldz hb0 mp6
  have mr6 := heldz hb0 mr6
  have mp7 := heldz hb0 mp7
  have mr7 := heldz hb0 mr7
  have ra := ra.step hb0
  have rb := rb.step hb0
  have rp5 := rp5.step hb0
  have rr5 := rr5.step hb0
  have rp6 := rp6.step hb0
  have rr6 := rr6.step hb0
  have rp7 := rp7.step hb0
  have rr7 := rr7.step hb0
  have hB := hB.trans (hb0.mono hB.size)
  clear hb0
  clear mp5 mr5 rp5 rr5
  obtain ⟨xp60, xp61, xp62⟩ := box3_of mp6
  obtain ⟨xr60, xr61, xr62⟩ := box3_of mr6
  go_wp2_with (go_at_call 22; refine (num3_c _ _).mono ?_; rintro e w' ⟨rfl, rfl⟩)
  clear xp60 xp61 xp62 xr60 xr61 xr62
  have H := DSame_eq (c := cp6) (d := cr6) N6 X6 w33 rp6 rr6 (fun b h => h) (fun b h => h) hnp6 hnr6
  unfold dv at H
  refine H.mono ?_
  rintro e w34 ⟨rfl, hb0⟩
  clear H
  have ma := heldz hb0 ma
  have mb := heldz hb0 mb
  have mp6 := heldz hb0 mp6
  have mr6 := heldz hb0 mr6
  have mp7 := heldz hb0 mp7
  have mr7 := heldz hb0 mr7
  have ra := ra.step hb0
  have rb := rb.step hb0
  have rp6 := rp6.step hb0
  have rr6 := rr6.step hb0
  have rp7 := rp7.step hb0
  have rr7 := rr7.step hb0
  have hB := hB.trans (hb0.mono hB.size)
  clear hb0
  clear mp6 mr6 rp6 rr6
  obtain ⟨xp70, xp71, xp72⟩ := box3_of mp7
  obtain ⟨xr70, xr71, xr72⟩ := box3_of mr7
  go_wp2_with (go_at_call 22; refine (num3_c _ _).mono ?_; rintro e w' ⟨rfl, rfl⟩)
  clear xp70 xp71 xp72 xr70 xr71 xr72
  have H := DSame_eq (c := cp7) (d := cr7) N7 X7 w34 rp7 rr7 (fun b h => h) (fun b h => h) hnp7 hnr7
  unfold dv at H
  refine H.mono ?_
  rintro e w35 ⟨rfl, hb0⟩
  clear H
  have ma := heldz hb0 ma
  have mb := heldz hb0 mb
  have mp7 := heldz hb0 mp7
  have mr7 := heldz hb0 mr7
  have ra := ra.step hb0
  have rb := rb.step hb0
  have rp7 := rp7.step hb0
  have rr7 := rr7.step hb0
  have hB := hB.trans (hb0.mono hB.size)
  clear hb0
  clear mp7 mr7 rp7 rr7
  go_wp2_with (go_at_call 22; refine (num3_c _ _).mono ?_; rintro e w' ⟨rfl, rfl⟩)
  refine (alive3_c _).mono ?_
  rintro e w' ⟨rfl, hb0⟩
  go_wp2
  go_ret
  exact ⟨rfl, hB.trans (hb0.mono hB.size)⟩
end Go.Proofs.YtbbafggejnjjiaaGreatDoor
