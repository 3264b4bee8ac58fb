/-
  The walk of value's ValueOrder, once the page's example is told (HAL).
-/
import Derived.Test.YtklpfgjnlheikaaGreatDoorVsame
import Derived.Deep.Cut
set_option linter.unusedVariables false
set_option linter.unusedSimpArgs false
namespace Go.Proofs.YtklpfgjnlheikaaGreatDoor
open Go.RowKit

set_option maxRecDepth 100000 in
theorem lnum_c (z : Int) (w : World) : Calls Tryz.prog 35 #[.int .i64 z] w fun e w' => e = .returned (.int .i64 z) ∧ w = w' := by
  go_enter Tryz.func35, Tryz.ntmps35
  go_wp2_with fail
  go_ret
  exact ⟨rfl, rfl⟩
theorem cmp2_err {x y : VT} (h : ¬ err2 x y = 0) : cmp2 x y = 0 := by unfold cmp2; rw [if_neg h]
theorem cmp2_ok {x y : VT} (h : err2 x y = 0) : cmp2 x y = ordV x y := by unfold cmp2; rw [if_pos h]

set_option maxRecDepth 100000 in
set_option maxHeartbeats 8000000 in
theorem valueOrder_c {S : Nat → Prop} {x y z : VT} {cs ds es : List Value} (w : World) (hT : Tabs w) (hx : VIn w S x cs) (hy : VIn w S y ds) (hz : VIn w S z es) (hS : ∀ b, S b → b < w.heap.size)
    (HAL : ∀ w, Tabs w → Calls Tryz.prog 33 #[] w fun e w' => e = .returned (.bool true) ∧ Below w.heap.size w w') :
    Calls Tryz.prog 6 #[.agg cs.toArray, .agg ds.toArray, .agg es.toArray] w fun e w' => e = .returned (.bool true) ∧ Below w.heap.size w w' := by
  have HX := Lib.hid hx
  have HY := Lib.hid hy
  have HZ := Lib.hid hz
  obtain ⟨k1, n1, u1, e1, t1, l1, ks1, h1k⟩ : ∃ k neg xs e t li ks, x = VT.mk k neg xs e t li ks := by cases x; exact ⟨_, _, _, _, _, _, _, rfl⟩
  rw [h1k] at hx
  obtain ⟨k2, n2, u2, e2, t2, l2, ks2, h2k⟩ : ∃ k neg xs e t li ks, y = VT.mk k neg xs e t li ks := by cases y; exact ⟨_, _, _, _, _, _, _, rfl⟩
  rw [h2k] at hy
  obtain ⟨k3, n3, u3, e3, t3, l3, ks3, h3k⟩ : ∃ k neg xs e t li ks, z = VT.mk k neg xs e t li ks := by cases z; exact ⟨_, _, _, _, _, _, _, rfl⟩
  rw [h3k] at hz
  obtain ⟨A1, m1, c1, LA1, lm1, lc1, KA1, km1, kc1, rfl, -⟩ := hx.parts
  obtain ⟨A2, m2, c2, LA2, lm2, lc2, KA2, km2, kc2, rfl, -⟩ := hy.parts
  obtain ⟨A3, m3, c3, LA3, lm3, lc3, KA3, km3, kc3, rfl, -⟩ := hz.parts
  clear hx hy hz h1k h2k h3k
  have HS := Lib.hid hS
  have hW : Below w.heap.size w (((w.alloc (.cells #[.int .i64 k1, .bool n1, .slice A1 m1 c1, .int .i64 e1, .string t1, .slice LA1 lm1 lc1, .slice KA1 km1 kc1] 53)).alloc (.cells #[.int .i64 k2, .bool n2, .slice A2 m2 c2, .int .i64 e2, .string t2, .slice LA2 lm2 lc2, .slice KA2 km2 kc2] 53)).alloc (.cells #[.int .i64 k3, .bool n3, .slice A3 m3 c3, .int .i64 e3, .string t3, .slice LA3 lm3 lc3, .slice KA3 km3 kc3] 53)) := (((Below.refl _ w).alloc (Nat.le_refl _) _).alloc (by simp) _).alloc (by simp; omega) _
  have hm1 : (((w.alloc (.cells #[.int .i64 k1, .bool n1, .slice A1 m1 c1, .int .i64 e1, .string t1, .slice LA1 lm1 lc1, .slice KA1 km1 kc1] 53)).alloc (.cells #[.int .i64 k2, .bool n2, .slice A2 m2 c2, .int .i64 e2, .string t2, .slice LA2 lm2 lc2, .slice KA2 km2 kc2] 53)).alloc (.cells #[.int .i64 k3, .bool n3, .slice A3 m3 c3, .int .i64 e3, .string t3, .slice LA3 lm3 lc3, .slice KA3 km3 kc3] 53)).heap[w.heap.size]? = some (.cells #[.int .i64 k1, .bool n1, .slice A1 m1 c1, .int .i64 e1, .string t1, .slice LA1 lm1 lc1, .slice KA1 km1 kc1] 53) := (Below.heap_alloc _ _ _ (by simp; omega)).trans ((Below.heap_alloc _ _ _ (by simp)).trans (World.alloc_heap_new w _))
  have hm2 : (((w.alloc (.cells #[.int .i64 k1, .bool n1, .slice A1 m1 c1, .int .i64 e1, .string t1, .slice LA1 lm1 lc1, .slice KA1 km1 kc1] 53)).alloc (.cells #[.int .i64 k2, .bool n2, .slice A2 m2 c2, .int .i64 e2, .string t2, .slice LA2 lm2 lc2, .slice KA2 km2 kc2] 53)).alloc (.cells #[.int .i64 k3, .bool n3, .slice A3 m3 c3, .int .i64 e3, .string t3, .slice LA3 lm3 lc3, .slice KA3 km3 kc3] 53)).heap[w.heap.size + 1]? = some (.cells #[.int .i64 k2, .bool n2, .slice A2 m2 c2, .int .i64 e2, .string t2, .slice LA2 lm2 lc2, .slice KA2 km2 kc2] 53) := by
    have := World.alloc_heap_new (w.alloc (.cells #[.int .i64 k1, .bool n1, .slice A1 m1 c1, .int .i64 e1, .string t1, .slice LA1 lm1 lc1, .slice KA1 km1 kc1] 53)) (.cells #[.int .i64 k2, .bool n2, .slice A2 m2 c2, .int .i64 e2, .string t2, .slice LA2 lm2 lc2, .slice KA2 km2 kc2] 53)
    rw [World.size_alloc] at this
    exact (Below.heap_alloc _ _ _ (by simp)).trans this
  have hm3 : (((w.alloc (.cells #[.int .i64 k1, .bool n1, .slice A1 m1 c1, .int .i64 e1, .string t1, .slice LA1 lm1 lc1, .slice KA1 km1 kc1] 53)).alloc (.cells #[.int .i64 k2, .bool n2, .slice A2 m2 c2, .int .i64 e2, .string t2, .slice LA2 lm2 lc2, .slice KA2 km2 kc2] 53)).alloc (.cells #[.int .i64 k3, .bool n3, .slice A3 m3 c3, .int .i64 e3, .string t3, .slice LA3 lm3 lc3, .slice KA3 km3 kc3] 53)).heap[w.heap.size + 2]? = some (.cells #[.int .i64 k3, .bool n3, .slice A3 m3 c3, .int .i64 e3, .string t3, .slice LA3 lm3 lc3, .slice KA3 km3 kc3] 53) := by
    have := World.alloc_heap_new ((w.alloc (.cells #[.int .i64 k1, .bool n1, .slice A1 m1 c1, .int .i64 e1, .string t1, .slice LA1 lm1 lc1, .slice KA1 km1 kc1] 53)).alloc (.cells #[.int .i64 k2, .bool n2, .slice A2 m2 c2, .int .i64 e2, .string t2, .slice LA2 lm2 lc2, .slice KA2 km2 kc2] 53)) (.cells #[.int .i64 k3, .bool n3, .slice A3 m3 c3, .int .i64 e3, .string t3, .slice LA3 lm3 lc3, .slice KA3 km3 kc3] 53)
    rwa [World.size_alloc, World.size_alloc] at this
  go_enter Tryz.func6, Tryz.ntmps6
  go_upto_region 1 with fail
  generalize (((w.alloc (.cells #[.int .i64 k1, .bool n1, .slice A1 m1 c1, .int .i64 e1, .string t1, .slice LA1 lm1 lc1, .slice KA1 km1 kc1] 53)).alloc (.cells #[.int .i64 k2, .bool n2, .slice A2 m2 c2, .int .i64 e2, .string t2, .slice LA2 lm2 lc2, .slice KA2 km2 kc2] 53)).alloc (.cells #[.int .i64 k3, .bool n3, .slice A3 m3 c3, .int .i64 e3, .string t3, .slice LA3 lm3 lc3, .slice KA3 km3 kc3] 53)) = w0 at *
  have HT0 := Lib.hid (hT.below hW)
  have HB0 := Lib.hid hW
  have M10 := Lib.hid hm1
  have M20 := Lib.hid hm2
  have M30 := Lib.hid hm3
  clear hT hW hm1 hm2 hm3 hS
  have HC := HAL w0 HT0.out
  clear HAL
  go_upto_region 3 with (refine HC.mono ?_; rintro e' w1 ⟨rfl, hb'⟩)
  have HT1 := Lib.hid (HT0.out.below hb')
  have HB1 := Lib.hid (HB0.out.trans (hb'.mono HB0.out.size))
  have M11 := Lib.hid ((hb'.block _ (Array.getElem?_eq_some_iff.1 M10.out).1).trans M10.out)
  have M21 := Lib.hid ((hb'.block _ (Array.getElem?_eq_some_iff.1 M20.out).1).trans M20.out)
  have M31 := Lib.hid ((hb'.block _ (Array.getElem?_eq_some_iff.1 M30.out).1).trans M30.out)
  clear HT0 HB0 M10 M20 M30 hb' HC
  have HC := VCompare_c w1 HT1.out (HX.out.keep fun p hp => HB1.out.cell (HS.out _ hp)) (HY.out.keep fun p hp => HB1.out.cell (HS.out _ hp)) (fun b hb => Nat.lt_of_lt_of_le (HS.out b hb) HB1.out.size)
  obtain ⟨X3, hX3⟩ : ∃ X, cmp2 x y = X := ⟨_, rfl⟩
  obtain ⟨E3, hE3⟩ : ∃ E, err2 x y = E := ⟨_, rfl⟩
  rw [hX3, hE3] at HC
  have HX3 := Lib.hid hX3
  have HE3 := Lib.hid hE3
  clear hX3 hE3
  obtain ⟨x0, x1, x2, x3, x4, x5, x6⟩ := box7_of M11.out
  obtain ⟨y0, y1, y2, y3, y4, y5, y6⟩ := box7_of M21.out
  go_wp2_with fail
  refine HC.mono ?_
  rintro e' w2 ⟨rfl, hb'⟩
  clear x0 x1 x2 x3 x4 x5 x6 y0 y1 y2 y3 y4 y5 y6
  have HT2 := Lib.hid (HT1.out.below hb')
  have HB2 := Lib.hid (HB1.out.trans (hb'.mono HB1.out.size))
  have M12 := Lib.hid ((hb'.block _ (Array.getElem?_eq_some_iff.1 M11.out).1).trans M11.out)
  have M22 := Lib.hid ((hb'.block _ (Array.getElem?_eq_some_iff.1 M21.out).1).trans M21.out)
  have M32 := Lib.hid ((hb'.block _ (Array.getElem?_eq_some_iff.1 M31.out).1).trans M31.out)
  clear HT1 HB1 M11 M21 M31 hb' HC
  go_upto_region 4 with fail
  have HC := VCompare_c w2 HT2.out (HY.out.keep fun p hp => HB2.out.cell (HS.out _ hp)) (HZ.out.keep fun p hp => HB2.out.cell (HS.out _ hp)) (fun b hb => Nat.lt_of_lt_of_le (HS.out b hb) HB2.out.size)
  obtain ⟨X4, hX4⟩ : ∃ X, cmp2 y z = X := ⟨_, rfl⟩
  obtain ⟨E4, hE4⟩ : ∃ E, err2 y z = E := ⟨_, rfl⟩
  rw [hX4, hE4] at HC
  have HX4 := Lib.hid hX4
  have HE4 := Lib.hid hE4
  clear hX4 hE4
  obtain ⟨y0, y1, y2, y3, y4, y5, y6⟩ := box7_of M22.out
  obtain ⟨z0, z1, z2, z3, z4, z5, z6⟩ := box7_of M32.out
  go_wp2_with fail
  refine HC.mono ?_
  rintro e' w3 ⟨rfl, hb'⟩
  clear y0 y1 y2 y3 y4 y5 y6 z0 z1 z2 z3 z4 z5 z6
  have HT3 := Lib.hid (HT2.out.below hb')
  have HB3 := Lib.hid (HB2.out.trans (hb'.mono HB2.out.size))
  have M13 := Lib.hid ((hb'.block _ (Array.getElem?_eq_some_iff.1 M12.out).1).trans M12.out)
  have M23 := Lib.hid ((hb'.block _ (Array.getElem?_eq_some_iff.1 M22.out).1).trans M22.out)
  have M33 := Lib.hid ((hb'.block _ (Array.getElem?_eq_some_iff.1 M32.out).1).trans M32.out)
  clear HT2 HB2 M12 M22 M32 hb' HC
  go_upto_region 5 with fail
  have HC := VCompare_c w3 HT3.out (HX.out.keep fun p hp => HB3.out.cell (HS.out _ hp)) (HZ.out.keep fun p hp => HB3.out.cell (HS.out _ hp)) (fun b hb => Nat.lt_of_lt_of_le (HS.out b hb) HB3.out.size)
  obtain ⟨X5, hX5⟩ : ∃ X, cmp2 x z = X := ⟨_, rfl⟩
  obtain ⟨E5, hE5⟩ : ∃ E, err2 x z = E := ⟨_, rfl⟩
  rw [hX5, hE5] at HC
  have HX5 := Lib.hid hX5
  have HE5 := Lib.hid hE5
  clear hX5 hE5
  obtain ⟨x0, x1, x2, x3, x4, x5, x6⟩ := box7_of M13.out
  obtain ⟨z0, z1, z2, z3, z4, z5, z6⟩ := box7_of M33.out
  go_wp2_with fail
  refine HC.mono ?_
  rintro e' w4 ⟨rfl, hb'⟩
  clear x0 x1 x2 x3 x4 x5 x6 z0 z1 z2 z3 z4 z5 z6
  have HT4 := Lib.hid (HT3.out.below hb')
  have HB4 := Lib.hid (HB3.out.trans (hb'.mono HB3.out.size))
  have M14 := Lib.hid ((hb'.block _ (Array.getElem?_eq_some_iff.1 M13.out).1).trans M13.out)
  have M24 := Lib.hid ((hb'.block _ (Array.getElem?_eq_some_iff.1 M23.out).1).trans M23.out)
  have M34 := Lib.hid ((hb'.block _ (Array.getElem?_eq_some_iff.1 M33.out).1).trans M33.out)
  clear HT3 HB3 M13 M23 M33 hb' HC
  go_upto_region 6 with fail
  have HC := VCompare_c w4 HT4.out (HY.out.keep fun p hp => HB4.out.cell (HS.out _ hp)) (HX.out.keep fun p hp => HB4.out.cell (HS.out _ hp)) (fun b hb => Nat.lt_of_lt_of_le (HS.out b hb) HB4.out.size)
  obtain ⟨X6, hX6⟩ : ∃ X, cmp2 y x = X := ⟨_, rfl⟩
  obtain ⟨E6, hE6⟩ : ∃ E, err2 y x = E := ⟨_, rfl⟩
  rw [hX6, hE6] at HC
  have HX6 := Lib.hid hX6
  have HE6 := Lib.hid hE6
  clear hX6 hE6
  obtain ⟨y0, y1, y2, y3, y4, y5, y6⟩ := box7_of M24.out
  obtain ⟨x0, x1, x2, x3, x4, x5, x6⟩ := box7_of M14.out
  go_wp2_with fail
  refine HC.mono ?_
  rintro e' w5 ⟨rfl, hb'⟩
  clear y0 y1 y2 y3 y4 y5 y6 x0 x1 x2 x3 x4 x5 x6
  have HT5 := Lib.hid (HT4.out.below hb')
  have HB5 := Lib.hid (HB4.out.trans (hb'.mono HB4.out.size))
  have M15 := Lib.hid ((hb'.block _ (Array.getElem?_eq_some_iff.1 M14.out).1).trans M14.out)
  have M25 := Lib.hid ((hb'.block _ (Array.getElem?_eq_some_iff.1 M24.out).1).trans M24.out)
  have M35 := Lib.hid ((hb'.block _ (Array.getElem?_eq_some_iff.1 M34.out).1).trans M34.out)
  clear HT4 HB4 M14 M24 M34 hb' HC
  go_upto_region 7 with fail
  have hb1 := box7_of M15.out
  have hb2 := box7_of M25.out
  by_cases h3 : E3 = 0
  · by_cases h4 : E4 = 0
    · have g3 : err2 x y = 0 := HE3.out.trans h3
      have g4 : err2 y z = 0 := HE4.out.trans h4
      obtain ⟨ox, oy⟩ := err2_zero.1 g3
      obtain ⟨_, oz⟩ := err2_zero.1 g4
      have g5 : err2 x z = 0 := err2_zero.2 ⟨ox, oz⟩
      have g6 : err2 y x = 0 := err2_zero.2 ⟨oy, ox⟩
      have h5 : E5 = 0 := HE5.out.symm.trans g5
      have h6 : E6 = 0 := HE6.out.symm.trans g6
      have v3 := HX3.out.symm.trans (cmp2_ok g3)
      have v4 := HX4.out.symm.trans (cmp2_ok g4)
      have v5 := HX5.out.symm.trans (cmp2_ok g5)
      have v6 := HX6.out.symm.trans (cmp2_ok g6)
      have va := ordV_anti x y
      have vb := (ordV_both x y z).1
      have ve := ordV_eq (fine_ok HX.out ox) (fine_ok HY.out oy)
      have p3 := ordV_val x y
      have p4 := ordV_val y z
      have p5 := ordV_val x z
      rw [← v3] at va ve p3
      rw [← v3, ← v4, ← v5] at vb
      rw [← v4] at p4
      rw [← v5] at p5
      rw [← v6] at va
      unfold Ord3 at vb
      obtain ⟨vb1, vb2, vb3⟩ := vb
      have hsv : sameV x y = decide (X3 = 0) := by
        by_cases h0 : X3 = 0
        · rw [decide_eq_true h0]; exact sameV_iff.2 (ve.1 h0)
        · rw [decide_eq_false h0]; exact sameV_no fun h => h0 (ve.2 h)
      have HSM := same_c x y S S _ _ w5 (HX.out.keep fun p hp => HB5.out.cell (HS.out _ hp)) (HY.out.keep fun p hp => HB5.out.cell (HS.out _ hp)) (fun b hb => Nat.lt_of_lt_of_le (HS.out b hb) HB5.out.size) (fun b hb => Nat.lt_of_lt_of_le (HS.out b hb) HB5.out.size)
      rw [hsv] at HSM
      clear hsv ve v3 v4 v5 v6 g3 g4 g5 g6 ox oy oz
      clear HX3 HX4 HX5 HX6 HE3 HE4 HE5 HE6
      subst h3 h4 h5 h6
      obtain ⟨x0, x1, x2, x3, x4, x5, x6⟩ := hb1
      obtain ⟨y0, y1, y2, y3, y4, y5, y6⟩ := hb2
      rcases p3 with rfl | rfl | rfl
      · obtain rfl : X6 = 1 := by omega
        rcases p4 with rfl | rfl | rfl
        · obtain rfl : X5 = -1 := by omega
          clear va vb1 vb2 vb3 p5
          go_wp2_with (first | (go_at_call 35; refine (lnum_c _ _).mono ?_; rintro e' w' ⟨rfl, rfl⟩) | (go_at_call 36; refine HSM.mono ?_; rintro e' w' ⟨rfl, hb'⟩))
          go_ret
          first | exact ⟨rfl, HB5.out⟩ | exact ⟨rfl, HB5.out.trans (hb'.mono HB5.out.size)⟩
        · obtain rfl : X5 = -1 := by omega
          clear va vb1 vb2 vb3 p5
          go_wp2_with (first | (go_at_call 35; refine (lnum_c _ _).mono ?_; rintro e' w' ⟨rfl, rfl⟩) | (go_at_call 36; refine HSM.mono ?_; rintro e' w' ⟨rfl, hb'⟩))
          go_ret
          first | exact ⟨rfl, HB5.out⟩ | exact ⟨rfl, HB5.out.trans (hb'.mono HB5.out.size)⟩
        · clear va vb1 vb2 vb3 p5
          go_wp2_with (first | (go_at_call 35; refine (lnum_c _ _).mono ?_; rintro e' w' ⟨rfl, rfl⟩) | (go_at_call 36; refine HSM.mono ?_; rintro e' w' ⟨rfl, hb'⟩))
          go_ret
          first | exact ⟨rfl, HB5.out⟩ | exact ⟨rfl, HB5.out.trans (hb'.mono HB5.out.size)⟩
      · obtain rfl : X6 = 0 := by omega
        rcases p4 with rfl | rfl | rfl
        · obtain rfl : X5 = -1 := by omega
          clear va vb1 vb2 vb3 p5
          go_wp2_with (first | (go_at_call 35; refine (lnum_c _ _).mono ?_; rintro e' w' ⟨rfl, rfl⟩) | (go_at_call 36; refine HSM.mono ?_; rintro e' w' ⟨rfl, hb'⟩))
          go_ret
          first | exact ⟨rfl, HB5.out⟩ | exact ⟨rfl, HB5.out.trans (hb'.mono HB5.out.size)⟩
        · obtain rfl : X5 = 0 := by omega
          clear va vb1 vb2 vb3 p5
          go_wp2_with (first | (go_at_call 35; refine (lnum_c _ _).mono ?_; rintro e' w' ⟨rfl, rfl⟩) | (go_at_call 36; refine HSM.mono ?_; rintro e' w' ⟨rfl, hb'⟩))
          go_ret
          first | exact ⟨rfl, HB5.out⟩ | exact ⟨rfl, HB5.out.trans (hb'.mono HB5.out.size)⟩
        · clear va vb1 vb2 vb3 p5
          go_wp2_with (first | (go_at_call 35; refine (lnum_c _ _).mono ?_; rintro e' w' ⟨rfl, rfl⟩) | (go_at_call 36; refine HSM.mono ?_; rintro e' w' ⟨rfl, hb'⟩))
          go_ret
          first | exact ⟨rfl, HB5.out⟩ | exact ⟨rfl, HB5.out.trans (hb'.mono HB5.out.size)⟩
      · obtain rfl : X6 = -1 := by omega
        clear va vb1 vb2 vb3 p4 p5
        go_wp2_with (first | (go_at_call 35; refine (lnum_c _ _).mono ?_; rintro e' w' ⟨rfl, rfl⟩) | (go_at_call 36; refine HSM.mono ?_; rintro e' w' ⟨rfl, hb'⟩))
        go_ret
        first | exact ⟨rfl, HB5.out⟩ | exact ⟨rfl, HB5.out.trans (hb'.mono HB5.out.size)⟩
    · have q4 : X4 = 0 := HX4.out.symm.trans (cmp2_err fun h => h4 (HE4.out.symm.trans h))
      clear HX3 HX4 HX5 HX6 HE3 HE4 HE5 HE6 hb1 hb2
      subst h3 q4
      have hne : ¬ (E4 : Int) = 0 := by omega
      have hne2 : ((E4 : Int) == 0) = false := by rw [beq_eq_false_iff_ne]; exact hne
      by_cases q3 : X3 = 0
      · subst q3
        go_wp2_with (first | (go_at_call 35; refine (lnum_c _ _).mono ?_; rintro e' w' ⟨rfl, rfl⟩) | (go_at_call 36; refine HSM.mono ?_; rintro e' w' ⟨rfl, hb'⟩))
        go_ret
        first | exact ⟨rfl, HB5.out⟩ | exact ⟨rfl, HB5.out.trans (hb'.mono HB5.out.size)⟩
      · have q3b : (X3 == 0) = false := by rw [beq_eq_false_iff_ne]; exact q3
        go_wp2_with (first | (go_at_call 35; refine (lnum_c _ _).mono ?_; rintro e' w' ⟨rfl, rfl⟩) | (go_at_call 36; refine HSM.mono ?_; rintro e' w' ⟨rfl, hb'⟩))
        go_ret
        first | exact ⟨rfl, HB5.out⟩ | exact ⟨rfl, HB5.out.trans (hb'.mono HB5.out.size)⟩
  · have q3 : X3 = 0 := HX3.out.symm.trans (cmp2_err fun h => h3 (HE3.out.symm.trans h))
    clear HX3 HX4 HX5 HX6 HE3 HE4 HE5 HE6 hb1 hb2
    subst q3
    have hne : ¬ (E3 : Int) = 0 := by omega
    have hne2 : ((E3 : Int) == 0) = false := by rw [beq_eq_false_iff_ne]; exact hne
    go_wp2_with (first | (go_at_call 35; refine (lnum_c _ _).mono ?_; rintro e' w' ⟨rfl, rfl⟩) | (go_at_call 36; refine HSM.mono ?_; rintro e' w' ⟨rfl, hb'⟩))
    go_ret
    first | exact ⟨rfl, HB5.out⟩ | exact ⟨rfl, HB5.out.trans (hb'.mono HB5.out.size)⟩
end Go.Proofs.YtklpfgjnlheikaaGreatDoor
