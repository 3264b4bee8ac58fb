/-
  Contract of the reference's Sum of two numbers by their digits.
-/
import Derived.Test.YtnlkcjfedomcgaaGreatDoorDrsum
set_option linter.unusedVariables false
set_option linter.unusedSimpArgs false
namespace Go.Proofs.YtnlkcjfedomcgaaGreatDoor
open Go.RowKit

theorem dlen_le {os : List Nat} {k : Nat} (h : DCan os) (hv : dval os < 10 ^ k) : os.length ≤ k := by
  rcases Nat.lt_or_ge k os.length with h1 | h1
  · exfalso
    have h2 := h.ge (by intro e; rw [e] at h1; simp at h1)
    have h3 : 10 ^ k ≤ dp (os.length - 1) := Nat.pow_le_pow_right (by omega) (by omega)
    omega
  · exact h1
theorem dval_pow {os : List Nat} {k : Nat} (h : D10 os) (hl : os.length ≤ k) : dval os < 10 ^ k := Nat.lt_of_lt_of_le (dval_lt h) (Nat.pow_le_pow_right (by omega) hl)

set_option maxRecDepth 100000 in
set_option maxHeartbeats 4000000 in
theorem RSum_c {S : Nat → Prop} {n m c d : Nat} {A B : Option Addr} {ds es : List Nat} (na nb : Bool) (e1 e2 lo : Int) (P1 P2 : Nat) (w : World) (ha : RdI w S A n ds) (hb : RdI w S B m es) (hS : ∀ b, S b → b < w.heap.size) (hd : DCan ds) (he : DCan es) (hn : n ≤ 10000) (hm : m ≤ 10000)
    (hx1 : -1000 ≤ e1 ∧ e1 ≤ 1000) (hx2 : -1000 ≤ e2 ∧ e2 ≤ 1000) (hlo : lo = min e1 e2) (hp1 : e1 - lo = (P1 : Int)) (hp2 : e2 - lo = (P2 : Int)) :
    Calls Tryz.prog 65 #[nv na A n c e1, nv nb B m d e2] w fun e w' => ∃ A1 n1 c1 os, e = .returned (nv (sgB na nb (dval ds * 10 ^ P1) (dval es * 10 ^ P2)) A1 n1 c1 lo) ∧ ResI w' w.heap.size A1 n1 c1 os ∧ DCan os ∧
      dval os = sgV na nb (dval ds * 10 ^ P1) (dval es * 10 ^ P2) ∧ n1 ≤ 12001 ∧ Below w.heap.size w w' := by
  have hal := fun V (h1 : RdI V S A n ds) (h2 : RdI V S B m es) hs => Align_c (c := c) (d := d) na nb e1 e2 lo P1 P2 V h1 h2 hs hd he hn hm hx1 hx2 hlo hp1 hp2
  obtain ⟨X, hX⟩ : ∃ X, dval ds * 10 ^ P1 = X := ⟨_, rfl⟩
  obtain ⟨Y, hY⟩ : ∃ Y, dval es * 10 ^ P2 = Y := ⟨_, rfl⟩
  rw [hX, hY]
  simp only [hX, hY] at hal
  obtain ⟨m0, m1, m2, hW, hsz⟩ := three_new w (.cells #[.bool na, .slice A n c, .int .i64 e1] 62) (.cells #[.bool nb, .slice B m d, .int .i64 e2] 62) (.cells #[.bool false, .slice none 0 0, .int .i64 0] 62)
  unfold nv at hal ⊢
  have HAL := Lib.hid hal
  have HM0 := Lib.hid m0
  have HM1 := Lib.hid m1
  have HM2 := Lib.hid m2
  clear hal hX hY hlo hp1 hp2 hx1 hx2 m0 m1 m2 hd he
  go_enter Tryz.func65, Tryz.ntmps65
  go_wp2_with fail
  have m0 := HM0.out
  have m1 := HM1.out
  have m2 := HM2.out
  clear HM0 HM1 HM2
  generalize (((w.alloc (.cells #[.bool na, .slice A n c, .int .i64 e1] 62)).alloc (.cells #[.bool nb, .slice B m d, .int .i64 e2] 62)).alloc (.cells #[.bool false, .slice none 0 0, .int .i64 0] 62)) = W at m0 m1 m2 hW hsz ⊢
  refine (HAL.out W (ha.below hW hS) (hb.below hW hS) (fun b h => by have := hS b h; omega)).mono ?_
  rintro e w1 ⟨A1, n1, c1, os, A2, n2, c2, us, rfl, hr1, hr2, ho1, ho2, hv1, hv2, hn1, hn2, hb1⟩
  have m0 := held hb1 (by omega) m0
  have m1 := held hb1 (by omega) m1
  have m2 := held hb1 (by omega) m2
  have hw1 := hW.trans (hb1.mono (by omega))
  have hs1 := hb1.size
  have HV1 := Lib.hid hv1
  have HV2 := Lib.hid hv2
  have HO1 := Lib.hid ho1
  have HO2 := Lib.hid ho2
  clear hv1 hv2 ho1 ho2 hb1
  obtain ⟨p0, p1, p2⟩ := box3_of m0
  obtain ⟨p3, p4, p5⟩ := box3_of m1
  have f0 := frozen_of 0 m0
  have f1 := frozen_of 1 m0
  have f2 := frozen_of 2 m0
  have f3 := frozen_of 0 m1
  have f4 := frozen_of 1 m1
  have f5 := frozen_of 2 m1
  have hla : w.heap.size < W.heap.size := by omega
  have hlb : w.heap.size + 1 < W.heap.size := by omega
  by_cases hnn : na = nb
  · subst hnn
    go_wp2_with fail
    clear p0 p1 p2 p3 p4 p5 f0 f1 f2 f3 f4 f5
    have m0 := set_blk (v := .bool na) (i := 0) m0 rfl
    have m1 := set_other (i := 0) m1 (show w.heap.size + 1 ≠ w.heap.size by omega) (.bool na)
    have m2 := set_other (i := 0) m2 (show w.heap.size + 1 + 1 ≠ w.heap.size by omega) (.bool na)
    have hr1 := hr1.setOther (p := ⟨w.heap.size, 0, none⟩) (show w.heap.size < _ by omega) (.bool na)
    have hr2 := hr2.setOther (p := ⟨w.heap.size, 0, none⟩) (show w.heap.size < _ by omega) (.bool na)
    have hw1 := hw1.setCell (p := ⟨w.heap.size, 0, none⟩) (show w.heap.size ≤ w.heap.size by omega) (.bool na)
    have m0 := set_blk (v := .slice A1 n1 c1) (i := 1) m0 rfl
    have m1 := set_other (i := 1) m1 (show w.heap.size + 1 ≠ w.heap.size by omega) (.slice A1 n1 c1)
    have m2 := set_other (i := 1) m2 (show w.heap.size + 1 + 1 ≠ w.heap.size by omega) (.slice A1 n1 c1)
    have hr1 := hr1.setOther (p := ⟨w.heap.size, 1, none⟩) (show w.heap.size < _ by omega) (.slice A1 n1 c1)
    have hr2 := hr2.setOther (p := ⟨w.heap.size, 1, none⟩) (show w.heap.size < _ by omega) (.slice A1 n1 c1)
    have hw1 := hw1.setCell (p := ⟨w.heap.size, 1, none⟩) (show w.heap.size ≤ w.heap.size by omega) (.slice A1 n1 c1)
    have m0 := set_blk (v := .int .i64 lo) (i := 2) m0 rfl
    have m1 := set_other (i := 2) m1 (show w.heap.size + 1 ≠ w.heap.size by omega) (.int .i64 lo)
    have m2 := set_other (i := 2) m2 (show w.heap.size + 1 + 1 ≠ w.heap.size by omega) (.int .i64 lo)
    have hr1 := hr1.setOther (p := ⟨w.heap.size, 2, none⟩) (show w.heap.size < _ by omega) (.int .i64 lo)
    have hr2 := hr2.setOther (p := ⟨w.heap.size, 2, none⟩) (show w.heap.size < _ by omega) (.int .i64 lo)
    have hw1 := hw1.setCell (p := ⟨w.heap.size, 2, none⟩) (show w.heap.size ≤ w.heap.size by omega) (.int .i64 lo)
    have m0 := set_other (i := 0) m0 (show w.heap.size ≠ w.heap.size + 1 by omega) (.bool na)
    have m1 := set_blk (v := .bool na) (i := 0) m1 rfl
    have m2 := set_other (i := 0) m2 (show w.heap.size + 1 + 1 ≠ w.heap.size + 1 by omega) (.bool na)
    have hr1 := hr1.setOther (p := ⟨w.heap.size + 1, 0, none⟩) (show w.heap.size + 1 < _ by omega) (.bool na)
    have hr2 := hr2.setOther (p := ⟨w.heap.size + 1, 0, none⟩) (show w.heap.size + 1 < _ by omega) (.bool na)
    have hw1 := hw1.setCell (p := ⟨w.heap.size + 1, 0, none⟩) (show w.heap.size ≤ w.heap.size + 1 by omega) (.bool na)
    have m0 := set_other (i := 1) m0 (show w.heap.size ≠ w.heap.size + 1 by omega) (.slice A2 n2 c2)
    have m1 := set_blk (v := .slice A2 n2 c2) (i := 1) m1 rfl
    have m2 := set_other (i := 1) m2 (show w.heap.size + 1 + 1 ≠ w.heap.size + 1 by omega) (.slice A2 n2 c2)
    have hr1 := hr1.setOther (p := ⟨w.heap.size + 1, 1, none⟩) (show w.heap.size + 1 < _ by omega) (.slice A2 n2 c2)
    have hr2 := hr2.setOther (p := ⟨w.heap.size + 1, 1, none⟩) (show w.heap.size + 1 < _ by omega) (.slice A2 n2 c2)
    have hw1 := hw1.setCell (p := ⟨w.heap.size + 1, 1, none⟩) (show w.heap.size ≤ w.heap.size + 1 by omega) (.slice A2 n2 c2)
    have m0 := set_other (i := 2) m0 (show w.heap.size ≠ w.heap.size + 1 by omega) (.int .i64 lo)
    have m1 := set_blk (v := .int .i64 lo) (i := 2) m1 rfl
    have m2 := set_other (i := 2) m2 (show w.heap.size + 1 + 1 ≠ w.heap.size + 1 by omega) (.int .i64 lo)
    have hr1 := hr1.setOther (p := ⟨w.heap.size + 1, 2, none⟩) (show w.heap.size + 1 < _ by omega) (.int .i64 lo)
    have hr2 := hr2.setOther (p := ⟨w.heap.size + 1, 2, none⟩) (show w.heap.size + 1 < _ by omega) (.int .i64 lo)
    have hw1 := hw1.setCell (p := ⟨w.heap.size + 1, 2, none⟩) (show w.heap.size ≤ w.heap.size + 1 by omega) (.int .i64 lo)
    have hs_W1 : ((((((w1.setCell ⟨w.heap.size, 0, none⟩ (.bool na)).setCell ⟨w.heap.size, 1, none⟩ (.slice A1 n1 c1)).setCell ⟨w.heap.size, 2, none⟩ (.int .i64 lo)).setCell ⟨w.heap.size + 1, 0, none⟩ (.bool na)).setCell ⟨w.heap.size + 1, 1, none⟩ (.slice A2 n2 c2)).setCell ⟨w.heap.size + 1, 2, none⟩ (.int .i64 lo)).heap.size = w1.heap.size := by simp [World.setCell]
    generalize ((((((w1.setCell ⟨w.heap.size, 0, none⟩ (.bool na)).setCell ⟨w.heap.size, 1, none⟩ (.slice A1 n1 c1)).setCell ⟨w.heap.size, 2, none⟩ (.int .i64 lo)).setCell ⟨w.heap.size + 1, 0, none⟩ (.bool na)).setCell ⟨w.heap.size + 1, 1, none⟩ (.slice A2 n2 c2)).setCell ⟨w.heap.size + 1, 2, none⟩ (.int .i64 lo)) = W1 at *
    obtain ⟨p0, p1, p2⟩ := box3_of m0
    obtain ⟨p3, p4, p5⟩ := box3_of m1
    obtain ⟨y0, y1, y2⟩ := box3_of m2
    have f0 := frozen_of 0 m0
    have f1 := frozen_of 1 m0
    have f2 := frozen_of 2 m0
    have f3 := frozen_of 0 m2
    have f4 := frozen_of 1 m2
    have f5 := frozen_of 2 m2
    refine (Plus_c (c := c1) (d := c2) W1 hr1.rd hr2.rd (fun b h => h.2) (fun b h => h.2) HO1.out.1 HO2.out.1 (by omega) (by omega)).mono ?_
    rintro e w2 ⟨A3, n3, c3, rs, rfl, hr3, ho3, hv3, hb3⟩
    rw [HV1.out, HV2.out] at hv3
    have hm0 := m0
    have hm2 := m2
    have m0 := heldz hb3 m0
    have m1 := heldz hb3 m1
    have m2 := heldz hb3 m2
    have hr1 := hr1.below hb3 (Nat.le_refl _)
    have hr2 := hr2.below hb3 (Nat.le_refl _)
    have hw2 := hw1.trans (hb3.mono hw1.size)
    have HV3 := Lib.hid hv3
    have HO3 := Lib.hid ho3
    clear hv3 ho3 p0 p1 p2 p3 p4 p5 y0 y1 y2 f0 f1 f2 f3 f4 f5 hb3
    obtain ⟨p0, p1, p2⟩ := box3_of m0
    obtain ⟨p3, p4, p5⟩ := box3_of m1
    obtain ⟨y0, y1, y2⟩ := box3_of m2
    have f0 := frozen_of 0 m0
    have f1 := frozen_of 1 m0
    have f2 := frozen_of 2 m0
    have f3 := frozen_of 0 m2
    have f4 := frozen_of 1 m2
    have f5 := frozen_of 2 m2
    go_wp2
    refine bodyPost_ret (v := .agg #[.bool na, .slice A3 n3 c3, .int .i64 lo]) (by simp [results, Tryz.results65, go_sem, y0, y1, y2]) rfl ?_
    have hfin : sgB na na X Y = na ∧ sgV na na X Y = X + Y := by
      unfold sgB sgV
      first | exact ⟨if_pos rfl, if_pos rfl⟩ | (rw [if_neg hnn, if_neg hnn]; first | (rw [if_pos hle, if_pos hle]; exact ⟨rfl, rfl⟩) | (rw [if_neg hle, if_neg hle]; exact ⟨rfl, rfl⟩))
    rw [hfin.1, hfin.2]
    have hv3 := HV3.out
    have hn3 : n3 ≤ 12001 := by
      rw [← hr3.len]
      refine dlen_le HO3.out ?_
      obtain ⟨T, hT⟩ : ∃ T, T = 12000 := ⟨_, rfl⟩
      have hq1 : dval os < 10 ^ T := dval_pow HO1.out.1 (by rw [hr1.len]; omega)
      have hq2 : dval us < 10 ^ T := dval_pow HO2.out.1 (by rw [hr2.len]; omega)
      rw [HV1.out] at hq1
      rw [HV2.out] at hq2
      rw [show 12001 = T + 1 by omega, Nat.pow_succ, hv3]
      generalize 10 ^ T = Q at *
      omega
    have hlW : w.heap.size < W1.heap.size := by omega
    have hlR : w.heap.size + 1 + 1 < W1.heap.size := by omega
    exact ⟨A3, n3, c3, rs, rfl, ((((hr3.setOther (p := ⟨w.heap.size, 1, none⟩) hlW _).setOther (p := ⟨w.heap.size + 1 + 1, 0, none⟩) hlR _).setOther (p := ⟨w.heap.size + 1 + 1, 1, none⟩) hlR _).setOther (p := ⟨w.heap.size + 1 + 1, 2, none⟩) hlR _).more hw1.size, HO3.out, hv3, hn3,
      (((hw2.setCell (p := ⟨w.heap.size, 1, none⟩) (Nat.le_refl _) _).setCell (p := ⟨w.heap.size + 1 + 1, 0, none⟩) (by simp; omega) _).setCell (p := ⟨w.heap.size + 1 + 1, 1, none⟩) (by simp; omega) _).setCell (p := ⟨w.heap.size + 1 + 1, 2, none⟩) (by simp; omega) _⟩
  · have hbb : (na == nb) = false := by rw [beq_eq_false_iff_ne]; exact hnn
    go_wp2_with fail
    clear p0 p1 p2 p3 p4 p5 f0 f1 f2 f3 f4 f5
    have m0 := set_blk (v := .bool na) (i := 0) m0 rfl
    have m1 := set_other (i := 0) m1 (show w.heap.size + 1 ≠ w.heap.size by omega) (.bool na)
    have m2 := set_other (i := 0) m2 (show w.heap.size + 1 + 1 ≠ w.heap.size by omega) (.bool na)
    have hr1 := hr1.setOther (p := ⟨w.heap.size, 0, none⟩) (show w.heap.size < _ by omega) (.bool na)
    have hr2 := hr2.setOther (p := ⟨w.heap.size, 0, none⟩) (show w.heap.size < _ by omega) (.bool na)
    have hw1 := hw1.setCell (p := ⟨w.heap.size, 0, none⟩) (show w.heap.size ≤ w.heap.size by omega) (.bool na)
    have m0 := set_blk (v := .slice A1 n1 c1) (i := 1) m0 rfl
    have m1 := set_other (i := 1) m1 (show w.heap.size + 1 ≠ w.heap.size by omega) (.slice A1 n1 c1)
    have m2 := set_other (i := 1) m2 (show w.heap.size + 1 + 1 ≠ w.heap.size by omega) (.slice A1 n1 c1)
    have hr1 := hr1.setOther (p := ⟨w.heap.size, 1, none⟩) (show w.heap.size < _ by omega) (.slice A1 n1 c1)
    have hr2 := hr2.setOther (p := ⟨w.heap.size, 1, none⟩) (show w.heap.size < _ by omega) (.slice A1 n1 c1)
    have hw1 := hw1.setCell (p := ⟨w.heap.size, 1, none⟩) (show w.heap.size ≤ w.heap.size by omega) (.slice A1 n1 c1)
    have m0 := set_blk (v := .int .i64 lo) (i := 2) m0 rfl
    have m1 := set_other (i := 2) m1 (show w.heap.size + 1 ≠ w.heap.size by omega) (.int .i64 lo)
    have m2 := set_other (i := 2) m2 (show w.heap.size + 1 + 1 ≠ w.heap.size by omega) (.int .i64 lo)
    have hr1 := hr1.setOther (p := ⟨w.heap.size, 2, none⟩) (show w.heap.size < _ by omega) (.int .i64 lo)
    have hr2 := hr2.setOther (p := ⟨w.heap.size, 2, none⟩) (show w.heap.size < _ by omega) (.int .i64 lo)
    have hw1 := hw1.setCell (p := ⟨w.heap.size, 2, none⟩) (show w.heap.size ≤ w.heap.size by omega) (.int .i64 lo)
    have m0 := set_other (i := 0) m0 (show w.heap.size ≠ w.heap.size + 1 by omega) (.bool nb)
    have m1 := set_blk (v := .bool nb) (i := 0) m1 rfl
    have m2 := set_other (i := 0) m2 (show w.heap.size + 1 + 1 ≠ w.heap.size + 1 by omega) (.bool nb)
    have hr1 := hr1.setOther (p := ⟨w.heap.size + 1, 0, none⟩) (show w.heap.size + 1 < _ by omega) (.bool nb)
    have hr2 := hr2.setOther (p := ⟨w.heap.size + 1, 0, none⟩) (show w.heap.size + 1 < _ by omega) (.bool nb)
    have hw1 := hw1.setCell (p := ⟨w.heap.size + 1, 0, none⟩) (show w.heap.size ≤ w.heap.size + 1 by omega) (.bool nb)
    have m0 := set_other (i := 1) m0 (show w.heap.size ≠ w.heap.size + 1 by omega) (.slice A2 n2 c2)
    have m1 := set_blk (v := .slice A2 n2 c2) (i := 1) m1 rfl
    have m2 := set_other (i := 1) m2 (show w.heap.size + 1 + 1 ≠ w.heap.size + 1 by omega) (.slice A2 n2 c2)
    have hr1 := hr1.setOther (p := ⟨w.heap.size + 1, 1, none⟩) (show w.heap.size + 1 < _ by omega) (.slice A2 n2 c2)
    have hr2 := hr2.setOther (p := ⟨w.heap.size + 1, 1, none⟩) (show w.heap.size + 1 < _ by omega) (.slice A2 n2 c2)
    have hw1 := hw1.setCell (p := ⟨w.heap.size + 1, 1, none⟩) (show w.heap.size ≤ w.heap.size + 1 by omega) (.slice A2 n2 c2)
    have m0 := set_other (i := 2) m0 (show w.heap.size ≠ w.heap.size + 1 by omega) (.int .i64 lo)
    have m1 := set_blk (v := .int .i64 lo) (i := 2) m1 rfl
    have m2 := set_other (i := 2) m2 (show w.heap.size + 1 + 1 ≠ w.heap.size + 1 by omega) (.int .i64 lo)
    have hr1 := hr1.setOther (p := ⟨w.heap.size + 1, 2, none⟩) (show w.heap.size + 1 < _ by omega) (.int .i64 lo)
    have hr2 := hr2.setOther (p := ⟨w.heap.size + 1, 2, none⟩) (show w.heap.size + 1 < _ by omega) (.int .i64 lo)
    have hw1 := hw1.setCell (p := ⟨w.heap.size + 1, 2, none⟩) (show w.heap.size ≤ w.heap.size + 1 by omega) (.int .i64 lo)
    have hs_W1 : ((((((w1.setCell ⟨w.heap.size, 0, none⟩ (.bool na)).setCell ⟨w.heap.size, 1, none⟩ (.slice A1 n1 c1)).setCell ⟨w.heap.size, 2, none⟩ (.int .i64 lo)).setCell ⟨w.heap.size + 1, 0, none⟩ (.bool nb)).setCell ⟨w.heap.size + 1, 1, none⟩ (.slice A2 n2 c2)).setCell ⟨w.heap.size + 1, 2, none⟩ (.int .i64 lo)).heap.size = w1.heap.size := by simp [World.setCell]
    generalize ((((((w1.setCell ⟨w.heap.size, 0, none⟩ (.bool na)).setCell ⟨w.heap.size, 1, none⟩ (.slice A1 n1 c1)).setCell ⟨w.heap.size, 2, none⟩ (.int .i64 lo)).setCell ⟨w.heap.size + 1, 0, none⟩ (.bool nb)).setCell ⟨w.heap.size + 1, 1, none⟩ (.slice A2 n2 c2)).setCell ⟨w.heap.size + 1, 2, none⟩ (.int .i64 lo)) = W1 at *
    obtain ⟨p0, p1, p2⟩ := box3_of m0
    obtain ⟨p3, p4, p5⟩ := box3_of m1
    obtain ⟨y0, y1, y2⟩ := box3_of m2
    have f0 := frozen_of 0 m0
    have f1 := frozen_of 1 m0
    have f2 := frozen_of 2 m0
    have f3 := frozen_of 0 m2
    have f4 := frozen_of 1 m2
    have f5 := frozen_of 2 m2
    refine (Order_c (c := c1) (d := c2) W1 hr1.rd hr2.rd HO1.out HO2.out (by omega) (by omega)).mono ?_
    rintro e w2 ⟨rfl, q, rfl⟩
    clear p0 p1 p2 p3 p4 p5 y0 y1 y2 f0 f1 f2 f3 f4 f5
    have m0 : (W1.drewN q).heap[w.heap.size]? = _ := m0
    have m1 : (W1.drewN q).heap[w.heap.size + 1]? = _ := m1
    have m2 : (W1.drewN q).heap[w.heap.size + 1 + 1]? = _ := m2
    have hr1 := hr1.keep (w' := W1.drewN q) (fun _ _ => rfl)
    have hr2 := hr2.keep (w' := W1.drewN q) (fun _ _ => rfl)
    have hw1 := below_drewN hw1 q
    have hs_W2 : (W1.drewN q).heap.size = W1.heap.size := rfl
    generalize W1.drewN q = W2 at *
    obtain ⟨p0, p1, p2⟩ := box3_of m0
    obtain ⟨p3, p4, p5⟩ := box3_of m1
    obtain ⟨y0, y1, y2⟩ := box3_of m2
    have f0 := frozen_of 0 m0
    have f1 := frozen_of 1 m0
    have f2 := frozen_of 2 m0
    have f3 := frozen_of 0 m2
    have f4 := frozen_of 1 m2
    have f5 := frozen_of 2 m2
    by_cases hle : Y ≤ X
    · have hge : 0 ≤ dcmp os us := by
        unfold dcmp
        rw [HV1.out, HV2.out, if_neg (by omega)]
        split <;> omega
      go_wp2_with fail
      refine (Minus_c (c := c1) (d := c2) W2 hr1.rd hr2.rd (fun b h => h.2) (fun b h => h.2) HO1.out.1 HO2.out (by rw [HV1.out, HV2.out]; exact hle) (by omega) (by omega)).mono ?_
      rintro e w2 ⟨A3, n3, c3, rs, rfl, hr3, ho3, hv3, hb3⟩
      have hv3 : dval rs = X - Y := by rw [HV1.out, HV2.out] at hv3; omega
      have hm0 := m0
      have hm2 := m2
      have m0 := heldz hb3 m0
      have m1 := heldz hb3 m1
      have m2 := heldz hb3 m2
      have hr1 := hr1.below hb3 (Nat.le_refl _)
      have hr2 := hr2.below hb3 (Nat.le_refl _)
      have hw2 := hw1.trans (hb3.mono hw1.size)
      have HV3 := Lib.hid hv3
      have HO3 := Lib.hid ho3
      clear hv3 ho3 p0 p1 p2 p3 p4 p5 y0 y1 y2 f0 f1 f2 f3 f4 f5 hb3
      obtain ⟨p0, p1, p2⟩ := box3_of m0
      obtain ⟨p3, p4, p5⟩ := box3_of m1
      obtain ⟨y0, y1, y2⟩ := box3_of m2
      have f0 := frozen_of 0 m0
      have f1 := frozen_of 1 m0
      have f2 := frozen_of 2 m0
      have f3 := frozen_of 0 m2
      have f4 := frozen_of 1 m2
      have f5 := frozen_of 2 m2
      go_wp2
      refine bodyPost_ret (v := .agg #[.bool na, .slice A3 n3 c3, .int .i64 lo]) (by simp [results, Tryz.results65, go_sem, y0, y1, y2]) rfl ?_
      have hfin : sgB na nb X Y = na ∧ sgV na nb X Y = X - Y := by
        unfold sgB sgV
        first | exact ⟨if_pos rfl, if_pos rfl⟩ | (rw [if_neg hnn, if_neg hnn]; first | (rw [if_pos hle, if_pos hle]; exact ⟨rfl, rfl⟩) | (rw [if_neg hle, if_neg hle]; exact ⟨rfl, rfl⟩))
      rw [hfin.1, hfin.2]
      have hv3 := HV3.out
      have hn3 : n3 ≤ 12001 := by
        rw [← hr3.len]
        refine dlen_le HO3.out ?_
        obtain ⟨T, hT⟩ : ∃ T, T = 12000 := ⟨_, rfl⟩
        have hq1 : dval os < 10 ^ T := dval_pow HO1.out.1 (by rw [hr1.len]; omega)
        have hq2 : dval us < 10 ^ T := dval_pow HO2.out.1 (by rw [hr2.len]; omega)
        rw [HV1.out] at hq1
        rw [HV2.out] at hq2
        rw [show 12001 = T + 1 by omega, Nat.pow_succ, hv3]
        generalize 10 ^ T = Q at *
        omega
      have hlW : w.heap.size < W2.heap.size := by omega
      have hlR : w.heap.size + 1 + 1 < W2.heap.size := by omega
      exact ⟨A3, n3, c3, rs, rfl, ((((hr3.setOther (p := ⟨w.heap.size, 1, none⟩) hlW _).setOther (p := ⟨w.heap.size + 1 + 1, 0, none⟩) hlR _).setOther (p := ⟨w.heap.size + 1 + 1, 1, none⟩) hlR _).setOther (p := ⟨w.heap.size + 1 + 1, 2, none⟩) hlR _).more hw1.size, HO3.out, hv3, hn3,
        (((hw2.setCell (p := ⟨w.heap.size, 1, none⟩) (Nat.le_refl _) _).setCell (p := ⟨w.heap.size + 1 + 1, 0, none⟩) (by simp; omega) _).setCell (p := ⟨w.heap.size + 1 + 1, 1, none⟩) (by simp; omega) _).setCell (p := ⟨w.heap.size + 1 + 1, 2, none⟩) (by simp; omega) _⟩
    · have hlt : dcmp os us < 0 := by
        unfold dcmp
        rw [HV1.out, HV2.out, if_pos (by omega)]
        omega
      have hgb : decide (0 ≤ dcmp os us) = false := decide_eq_false (by omega)
      go_wp2_with fail
      refine wp_region_held_drew (S := fun w' => w'.cell? ⟨w.heap.size + 1, 0, none⟩ = some (.bool nb) ∧ w'.cell? ⟨w.heap.size + 1, 1, none⟩ = some (.slice A2 n2 c2)) (by kernel_rfl) ⟨p3, p4⟩ (fun hHeld => ?_)
      (try simp only [List.size_toArray, List.length_cons, List.length_nil, Nat.reduceAdd, Array.replicate_succ, Array.replicate_zero, List.push_toArray, List.append_toArray, List.nil_append, List.cons_append])
      refine wpAnyH_take (i := 0) (oi := ⟨_, _, _, _, _, _⟩) (v := ?_) rfl (by kernel_rfl) (by kernel_rfl) (by kernel_rfl) (fun _ _ _ h => h) (Or.inl ⟨by rfl, ?_⟩) (by assumption) ?_
      rotate_left
      · intro w hSw
        (try dsimp only at hSw)
        go_split_ands
        go_simp
        try with_reducible rfl
      try simp only [Act.put, List.setIfInBounds_toArray, List.set_cons_zero, List.set_cons_succ]
      refine wpAnyH_take (i := 1) (oi := ⟨_, _, _, _, _, _⟩) (v := ?_) rfl (by kernel_rfl) (by kernel_rfl) (by kernel_rfl) (fun _ _ _ h => h) (Or.inl ⟨by rfl, ?_⟩) (by assumption) ?_
      rotate_left
      · intro w hSw
        (try dsimp only at hSw)
        go_split_ands
        go_simp
        try with_reducible rfl
      try simp only [Act.put, List.setIfInBounds_toArray, List.set_cons_zero, List.set_cons_succ]
      refine wpAnyH_take (i := 2) (oi := ⟨_, _, _, _, _, _⟩) (v := ?_) rfl (by kernel_rfl) (by kernel_rfl) (by kernel_rfl) (fun _ _ _ h => h) (Or.inl ⟨by rfl, ?_⟩) (by assumption) ?_
      rotate_left
      · intro w hSw
        (try dsimp only at hSw)
        go_split_ands
        go_simp
        try with_reducible rfl
      try simp only [Act.put, List.setIfInBounds_toArray, List.set_cons_zero, List.set_cons_succ]
      refine wpAnyH_take (i := 3) (oi := ⟨_, _, _, _, _, _⟩) (v := ?_) rfl (by kernel_rfl) (by kernel_rfl) (by kernel_rfl) (fun _ _ _ h => h) (Or.inl ⟨by rfl, ?_⟩) (by assumption) ?_
      rotate_left
      · intro w hSw
        (try dsimp only at hSw)
        go_split_ands
        go_simp
        try with_reducible rfl
      try simp only [Act.put, List.setIfInBounds_toArray, List.set_cons_zero, List.set_cons_succ]
      refine wpAnyH_take (i := 4) (oi := ⟨_, _, _, _, _, _⟩) (v := ?_) rfl (by kernel_rfl) (by kernel_rfl) (by kernel_rfl) (fun _ _ _ h => h) (Or.inl ⟨by rfl, ?_⟩) (by assumption) ?_
      rotate_left
      · intro w hSw
        (try dsimp only at hSw)
        go_split_ands
        go_simp
        try with_reducible rfl
      try simp only [Act.put, List.setIfInBounds_toArray, List.set_cons_zero, List.set_cons_succ]
      refine wpAnyH_ready (rs := [5]) (by kernel_rfl) (by simp) (AllReadyH.cons (o := ⟨_, _, _, _, _, _⟩) rfl (fun K hK => ?_) AllReadyH.nil)
      go_simp
      refine hK.out _ _ hHeld (fun _ => ?_)
      clear hK K
      try simp only [Act.put, List.setIfInBounds_toArray, List.set_cons_zero, List.set_cons_succ]
      refine wpAnyH_take (i := 7) (oi := ⟨_, _, _, _, _, _⟩) (v := ?_) rfl (by kernel_rfl) (by kernel_rfl) (by kernel_rfl) (fun _ _ _ h => h) (Or.inl ⟨by rfl, ?_⟩) (by assumption) ?_
      rotate_left
      · intro w hSw
        (try dsimp only at hSw)
        go_split_ands
        go_simp
        try with_reducible rfl
      try simp only [Act.put, List.setIfInBounds_toArray, List.set_cons_zero, List.set_cons_succ]
      refine wpAnyH_ready (rs := [6]) (by kernel_rfl) (by simp) (AllReadyH.cons (o := ⟨_, _, _, _, _, _⟩) rfl (fun K hK => ?_) AllReadyH.nil)
      go_simp
      refine (Minus_c (c := c2) (d := c1) W2.drew (hr2.rd.keep (fun _ _ => rfl)) (hr1.rd.keep (fun _ _ => rfl)) (fun b h => h.2) (fun b h => h.2) HO2.out.1 HO1.out (by rw [HV1.out, HV2.out]; omega) (by omega) (by omega)).mono ?_
      rintro e w2 ⟨A3, n3, c3, rs, rfl, hr3, ho3, hv3, hb3⟩
      have hv3 : dval rs = Y - X := by rw [HV1.out, HV2.out] at hv3; omega
      have m0 := held hb3 (show w.heap.size < W2.heap.size by omega) m0
      have m1 := held hb3 (show w.heap.size + 1 < W2.heap.size by omega) m1
      have m2 := held hb3 (show w.heap.size + 1 + 1 < W2.heap.size by omega) m2
      have hr1 := (hr1.keep (w' := W2.drew) (fun _ _ => rfl)).below hb3 (Nat.le_refl _)
      have hr2 := (hr2.keep (w' := W2.drew) (fun _ _ => rfl)).below hb3 (Nat.le_refl _)
      have hw2 := (only_drewB hw1).trans (hb3.mono (show w.heap.size ≤ W2.heap.size from hw1.size))
      have HV3 := Lib.hid hv3
      have HO3 := Lib.hid ho3
      clear hv3 ho3 p0 p1 p2 p3 p4 p5 y0 y1 y2 f0 f1 f2 f3 f4 f5
      (try dsimp only)
      obtain ⟨x3, x4, x5⟩ := box3_of m1
      refine hK.out _ _ ⟨x3, x4⟩ (fun _ => ?_)
      clear hK K hb3
      try simp only [Act.put, List.setIfInBounds_toArray, List.set_cons_zero, List.set_cons_succ]
      obtain ⟨p0, p1, p2⟩ := box3_of m0
      obtain ⟨p3, p4, p5⟩ := box3_of m1
      obtain ⟨y0, y1, y2⟩ := box3_of m2
      have f0 := frozen_of 0 m0
      have f1 := frozen_of 1 m0
      have f2 := frozen_of 2 m0
      have f3 := frozen_of 0 m2
      have f4 := frozen_of 1 m2
      have f5 := frozen_of 2 m2
      refine wpAnyH_ready (rs := [8]) (by kernel_rfl) (by simp) (AllReadyH.cons (o := ⟨_, _, _, _, _, _⟩) rfl (fun K hK => ?_) AllReadyH.nil)
      go_simp
      refine hK.out _ _ (by constructor <;> (first | go_keep | (rw [World.cell?_setCell_far _ _ _ _ (by simp)]; assumption))) (fun _ => ?_)
      clear hK K
      try simp only [Act.put, List.setIfInBounds_toArray, List.set_cons_zero, List.set_cons_succ]
      refine wpAnyH_take (i := 9) (oi := ⟨_, _, _, _, _, _⟩) (v := ?_) rfl (by kernel_rfl) (by kernel_rfl) (by kernel_rfl) (fun _ _ _ h => h) (Or.inl ⟨by rfl, ?_⟩) (by assumption) ?_
      rotate_left
      · intro w hSw
        (try dsimp only at hSw)
        go_split_ands
        go_simp
        try with_reducible rfl
      try simp only [Act.put, List.setIfInBounds_toArray, List.set_cons_zero, List.set_cons_succ]
      refine wpAnyH_ready (rs := [10]) (by kernel_rfl) (by simp) (AllReadyH.cons (o := ⟨_, _, _, _, _, _⟩) rfl (fun K hK => ?_) AllReadyH.nil)
      go_simp
      refine hK.out _ _ (by constructor <;> (first | go_keep | (rw [World.cell?_setCell_far _ _ _ _ (by simp), World.cell?_setCell_far _ _ _ _ (by simp)]; assumption))) (fun _ => ?_)
      clear hK K
      try simp only [Act.put, List.setIfInBounds_toArray, List.set_cons_zero, List.set_cons_succ]
      refine wpAnyH_done (by kernel_rfl) ?_ _
      go_wp2
      refine bodyPost_ret (v := .agg #[.bool nb, .slice A3 n3 c3, .int .i64 lo]) (by simp [results, Tryz.results65, go_sem, y0, y1, y2]) rfl ?_
      have hfin : sgB na nb X Y = nb ∧ sgV na nb X Y = Y - X := by
        unfold sgB sgV
        first | exact ⟨if_pos rfl, if_pos rfl⟩ | (rw [if_neg hnn, if_neg hnn]; first | (rw [if_pos hle, if_pos hle]; exact ⟨rfl, rfl⟩) | (rw [if_neg hle, if_neg hle]; exact ⟨rfl, rfl⟩))
      rw [hfin.1, hfin.2]
      have hv3 := HV3.out
      have hn3 : n3 ≤ 12001 := by
        rw [← hr3.len]
        refine dlen_le HO3.out ?_
        obtain ⟨T, hT⟩ : ∃ T, T = 12000 := ⟨_, rfl⟩
        have hq1 : dval os < 10 ^ T := dval_pow HO1.out.1 (by rw [hr1.len]; omega)
        have hq2 : dval us < 10 ^ T := dval_pow HO2.out.1 (by rw [hr2.len]; omega)
        rw [HV1.out] at hq1
        rw [HV2.out] at hq2
        rw [show 12001 = T + 1 by omega, Nat.pow_succ, hv3]
        generalize 10 ^ T = Q at *
        omega
      have hlW : w.heap.size < W2.drew.heap.size := show w.heap.size < W2.heap.size by omega
      have hlR : w.heap.size + 1 + 1 < W2.drew.heap.size := show w.heap.size + 1 + 1 < W2.heap.size by omega
      exact ⟨A3, n3, c3, rs, rfl, (((((hr3.setOther (p := ⟨w.heap.size, 0, none⟩) hlW _).setOther (p := ⟨w.heap.size, 1, none⟩) hlW _).setOther (p := ⟨w.heap.size + 1 + 1, 0, none⟩) hlR _).setOther (p := ⟨w.heap.size + 1 + 1, 1, none⟩) hlR _).setOther (p := ⟨w.heap.size + 1 + 1, 2, none⟩) hlR _).more (show w.heap.size ≤ W2.heap.size from hw1.size), HO3.out, hv3, hn3,
        ((((hw2.setCell (p := ⟨w.heap.size, 0, none⟩) (Nat.le_refl _) _).setCell (p := ⟨w.heap.size, 1, none⟩) (Nat.le_refl _) _).setCell (p := ⟨w.heap.size + 1 + 1, 0, none⟩) (by simp; omega) _).setCell (p := ⟨w.heap.size + 1 + 1, 1, none⟩) (by simp; omega) _).setCell (p := ⟨w.heap.size + 1 + 1, 2, none⟩) (by simp; omega) _⟩
end Go.Proofs.YtnlkcjfedomcgaaGreatDoor
