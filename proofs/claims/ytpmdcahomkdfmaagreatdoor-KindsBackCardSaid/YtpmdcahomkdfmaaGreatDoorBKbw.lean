/-
  The walk of the law KindsBack: it returns true, whatever the value is.
-/
import Derived.Test.YtpmdcahomkdfmaaGreatDoorBKbl
set_option linter.unusedVariables false
set_option linter.unusedSimpArgs false
namespace Go.Proofs.YtpmdcahomkdfmaaGreatDoor
open Go.RowKit Go.Lib

set_option maxRecDepth 4000000 in
set_option maxHeartbeats 16000000 in
theorem kindsBack_c {S : Nat → Prop} {x : VT} {cs : List Value} (w : World) (hT : Tabs w) (hx : VIn w S x cs) (hS : ∀ b, S b → b < w.heap.size) :
    Calls Tryz.prog 3 #[.agg cs.toArray] w fun e w' => e = .returned (.bool true) ∧ Below w.heap.size w w' := by
  obtain ⟨neg0, A0, n0, c0, ex0, t0, LA0, ln0, lc0, KA0, kn0, kc0, rfl, -, -, -⟩ := vin_kindK hx
  obtain ⟨k0, hk0⟩ : ∃ k, x.kind = k := ⟨_, rfl⟩
  rw [hk0] at hx ⊢
  obtain ⟨b0, hb0e⟩ : ∃ b, w.heap.size = b := ⟨_, rfl⟩
  obtain ⟨w0, hw0⟩ : ∃ w0, w.alloc (.cells #[.int .i64 k0, .bool neg0, .slice A0 n0 c0, .int .i64 ex0, .string t0, .slice LA0 ln0 lc0, .slice KA0 kn0 kc0] 28) = w0 := ⟨_, rfl⟩
  have hb0 : Below b0 w w0 := by rw [← hw0]; exact (Below.refl b0 w).alloc (by omega) _
  have hm0 : w0.heap[b0]? = some (.cells #[.int .i64 k0, .bool neg0, .slice A0 n0 c0, .int .i64 ex0, .string t0, .slice LA0 ln0 lc0, .slice KA0 kn0 kc0] 28) := by rw [← hw0, ← hb0e]; exact World.alloc_heap_new _ _
  have hs0 : w0.heap.size = b0 + 1 := by rw [← hw0, World.size_alloc, hb0e]
  have hx0 := (hx.keep (w' := w0) fun p hp => hb0.cell (p := p) (by have := hS _ hp; omega)).more (S' := fun b => b < b0 + 1) fun b hb => by have := hS b hb; omega
  have hTx := fun W (h : Below b0 w W) => hT.below (hb0e ▸ h)
  have HT := Lib.hid hTx
  have HW0 := Lib.hid hw0
  have HB0 := Lib.hid hb0
  have HM0 := Lib.hid hm0
  have HX0 := Lib.hid hx0
  have HS0 := Lib.hid hs0
  have HKX := Lib.hid hk0
  rw [hb0e]
  clear hx hT hS hw0 hb0 hm0 hs0 hx0 hTx hk0
  go_enter Tryz.func3, Tryz.ntmps3
  go_wp2_with fail
  try rw [hb0e]
  clear hb0e
  rw [HW0.out]
  refine (alive12_c w0 (HT.out w0 HB0.out)).mono ?_
  rintro e9 v0 ⟨rfl, hb1⟩
  rw [HS0.out] at hb1
  have HBv0 := Lib.hid (HB0.out.trans (hb1.mono (by omega)))
  have HMv0_0 := Lib.hid ((hb1.block b0 (by omega)).trans HM0.out)
  have HXv0_0 := Lib.hid (HX0.out.keep (w' := v0) fun p hp => hb1.cell (p := p) hp)
  have hsv0 : b0 + 1 ≤ v0.heap.size := by have := hb1.size; rw [HS0.out] at this; exact this
  clear hb1
  obtain ⟨y0, y1, y2, y3, y4, y5, y6⟩ := box7_of HMv0_0.out
  have hc1 := kentries_c v0 (HT.out v0 HBv0.out) HXv0_0.out (fun b hb => by omega)
  have hun := fun (S : Nat → Prop) (cs : List Value) (W : World) hT hV hS => @unentK_c S x cs W hT hV hS
  obtain ⟨V1, hV1⟩ : ∃ V, WoV (errV x) (entE x) (entY x) = V := ⟨_, rfl⟩
  obtain ⟨R1, hR1⟩ : ∃ R, WoR (errV x) (entE x) (entY x) = R := ⟨_, rfl⟩
  rw [hV1, hR1] at hc1 hun
  have HC1 := Lib.hid hc1
  have HUN := Lib.hid hun
  clear hV1 hR1 hun
  clear hc1
  go_wp2_with fail
  refine HC1.out.mono ?_
  rintro e9 u1 ⟨⟨cs1, rfl, hv1⟩, hb1⟩
  obtain ⟨k1, neg1, A1, n1, c1, ex1, t1, LA1, ln1, lc1, KA1, kn1, kc1, rfl, -, -⟩ := hv1.seven
  have hsu1 : v0.heap.size ≤ u1.heap.size := hb1.size
  obtain ⟨b1, hb1e⟩ : ∃ b, u1.heap.size = b := ⟨_, rfl⟩
  obtain ⟨x1, hx1e⟩ : ∃ W, u1.alloc (.cells #[.int .i64 0, .bool false, .slice none 0 0, .int .i64 0, .string ⟨#[]⟩, .slice none 0 0, .slice none 0 0] 28) = W := ⟨_, rfl⟩
  have hax1 : Below b1 u1 x1 := by rw [← hx1e]; exact (Below.refl _ u1).alloc (by omega) _
  have hsx1 : x1.heap.size = b1 + 1 := by rw [← hx1e, World.size_alloc, hb1e]
  have hnx1 : x1.heap[b1]? = some (.cells #[.int .i64 0, .bool false, .slice none 0 0, .int .i64 0, .string ⟨#[]⟩, .slice none 0 0, .slice none 0 0] 28) := by rw [← hx1e, ← hb1e]; exact World.alloc_heap_new _ _
  obtain ⟨v1, hw1⟩ : ∃ W, (((((((x1.setCell ⟨b1, 0, none⟩ (.int .i64 k1)).setCell ⟨b1, 1, none⟩ (.bool neg1)).setCell ⟨b1, 2, none⟩ (.slice A1 n1 c1)).setCell ⟨b1, 3, none⟩ (.int .i64 ex1)).setCell ⟨b1, 4, none⟩ (.string t1)).setCell ⟨b1, 5, none⟩ (.slice LA1 ln1 lc1)).setCell ⟨b1, 6, none⟩ (.slice KA1 kn1 kc1)) = W := ⟨_, rfl⟩
  have hnv1 := heap_seven hnx1 (.int .i64 k1) (.bool neg1) (.slice A1 n1 c1) (.int .i64 ex1) (.string t1) (.slice LA1 ln1 lc1) (.slice KA1 kn1 kc1)
  have ha1 := below_seven hax1 (Nat.le_refl b1) (.int .i64 k1) (.bool neg1) (.slice A1 n1 c1) (.int .i64 ex1) (.string t1) (.slice LA1 ln1 lc1) (.slice KA1 kn1 kc1)
  rw [hw1] at hnv1 ha1
  have hsv1' : v1.heap.size = b1 + 1 := by rw [← hw1]; simp [World.setCell, hsx1]
  have hba1 : Below v0.heap.size v0 v1 := hb1.trans (ha1.mono (by omega))
  have HMv1_0 := Lib.hid ((hba1.block b0 (by omega)).trans HMv0_0.out)
  have HXv1_0 := Lib.hid (HXv0_0.out.keep (w' := v1) fun p hp => hba1.cell (p := p) (by have : p.block < b0 + 1 := hp; omega))
  have HMv1_1 := Lib.hid hnv1
  have HXv1_1 := Lib.hid ((hv1.keep (w' := v1) fun p hp => ha1.cell (p := p) (by have := hp.2; omega)).more (S' := fun b => b < b1 + 1) fun b hb => by have := hb.2; omega)
  have HBv1 := Lib.hid (HBv0.out.trans (hba1.mono (by omega)))
  have hsv1 : b1 + 1 ≤ v1.heap.size := by omega
  have hbb1 : b0 + 1 ≤ b1 := by omega
  obtain ⟨m0, m1, m2, m3, m4, m5, m6⟩ := box7_of hnx1
  have fm : ∀ j, x1.frozen? ⟨b1, j, none⟩ = false := fun j => frozen_of_row _ _ j _ _ hnx1
  have HW1 := Lib.hid hw1
  clear hv1 hb1 ha1 hba1 hw1 hsu1 hax1 hsx1 hnx1 hnv1 hsv1' y0 y1 y2 y3 y4 y5 y6 HC1
  go_upto_region 4 with fail
  try rw [hb1e]
  try rw [hx1e]
  rw [HW1.out]
  clear hb1e hx1e m0 m1 m2 m3 m4 m5 m6 fm
  obtain ⟨y0, y1, y2, y3, y4, y5, y6⟩ := box7_of HMv1_1.out
  obtain ⟨R2, V2, h12, hc2⟩ := HUN.out _ _ v1 (HT.out v1 HBv1.out) HXv1_1.out (fun b hb => by omega)
  have HC2 := Lib.hid hc2
  have H12 := Lib.hid h12
  clear h12
  clear hc2
  go_wp2_with fail
  refine HC2.out.mono ?_
  rintro e9 u2 ⟨⟨cs2, rfl, hv2⟩, hb2⟩
  obtain ⟨k2, neg2, A2, n2, c2, ex2, t2, LA2, ln2, lc2, KA2, kn2, kc2, rfl, -, -⟩ := hv2.seven
  have hsu2 : v1.heap.size ≤ u2.heap.size := hb2.size
  obtain ⟨b2, hb2e⟩ : ∃ b, u2.heap.size = b := ⟨_, rfl⟩
  obtain ⟨x2, hx2e⟩ : ∃ W, u2.alloc (.cells #[.int .i64 0, .bool false, .slice none 0 0, .int .i64 0, .string ⟨#[]⟩, .slice none 0 0, .slice none 0 0] 28) = W := ⟨_, rfl⟩
  have hax2 : Below b2 u2 x2 := by rw [← hx2e]; exact (Below.refl _ u2).alloc (by omega) _
  have hsx2 : x2.heap.size = b2 + 1 := by rw [← hx2e, World.size_alloc, hb2e]
  have hnx2 : x2.heap[b2]? = some (.cells #[.int .i64 0, .bool false, .slice none 0 0, .int .i64 0, .string ⟨#[]⟩, .slice none 0 0, .slice none 0 0] 28) := by rw [← hx2e, ← hb2e]; exact World.alloc_heap_new _ _
  obtain ⟨v2, hw2⟩ : ∃ W, (((((((x2.setCell ⟨b2, 0, none⟩ (.int .i64 k2)).setCell ⟨b2, 1, none⟩ (.bool neg2)).setCell ⟨b2, 2, none⟩ (.slice A2 n2 c2)).setCell ⟨b2, 3, none⟩ (.int .i64 ex2)).setCell ⟨b2, 4, none⟩ (.string t2)).setCell ⟨b2, 5, none⟩ (.slice LA2 ln2 lc2)).setCell ⟨b2, 6, none⟩ (.slice KA2 kn2 kc2)) = W := ⟨_, rfl⟩
  have hnv2 := heap_seven hnx2 (.int .i64 k2) (.bool neg2) (.slice A2 n2 c2) (.int .i64 ex2) (.string t2) (.slice LA2 ln2 lc2) (.slice KA2 kn2 kc2)
  have ha2 := below_seven hax2 (Nat.le_refl b2) (.int .i64 k2) (.bool neg2) (.slice A2 n2 c2) (.int .i64 ex2) (.string t2) (.slice LA2 ln2 lc2) (.slice KA2 kn2 kc2)
  rw [hw2] at hnv2 ha2
  have hsv2' : v2.heap.size = b2 + 1 := by rw [← hw2]; simp [World.setCell, hsx2]
  have hba2 : Below v1.heap.size v1 v2 := hb2.trans (ha2.mono (by omega))
  have HMv2_0 := Lib.hid ((hba2.block b0 (by omega)).trans HMv1_0.out)
  have HXv2_0 := Lib.hid (HXv1_0.out.keep (w' := v2) fun p hp => hba2.cell (p := p) (by have : p.block < b0 + 1 := hp; omega))
  have HMv2_1 := Lib.hid ((hba2.block b1 (by omega)).trans HMv1_1.out)
  have HXv2_1 := Lib.hid (HXv1_1.out.keep (w' := v2) fun p hp => hba2.cell (p := p) (by have : p.block < b1 + 1 := hp; omega))
  have HMv2_2 := Lib.hid hnv2
  have HXv2_2 := Lib.hid ((hv2.keep (w' := v2) fun p hp => ha2.cell (p := p) (by have := hp.2; omega)).more (S' := fun b => b < b2 + 1) fun b hb => by have := hb.2; omega)
  have HBv2 := Lib.hid (HBv1.out.trans (hba2.mono (by omega)))
  have hsv2 : b2 + 1 ≤ v2.heap.size := by omega
  have hbb2 : b1 + 1 ≤ b2 := by omega
  obtain ⟨m0, m1, m2, m3, m4, m5, m6⟩ := box7_of hnx2
  have fm : ∀ j, x2.frozen? ⟨b2, j, none⟩ = false := fun j => frozen_of_row _ _ j _ _ hnx2
  have HW2 := Lib.hid hw2
  clear hv2 hb2 ha2 hba2 hw2 hsu2 hax2 hsx2 hnx2 hnv2 hsv2' y0 y1 y2 y3 y4 y5 y6 HC2
  go_upto_region 5 with fail
  try rw [hb2e]
  try rw [hx2e]
  rw [HW2.out]
  clear hb2e hx2e m0 m1 m2 m3 m4 m5 m6 fm
  by_cases hr1 : R1 = 0
  · obtain ⟨rfl, rfl⟩ := H12.out hr1
    subst hr1
    obtain ⟨y0, y1, y2, y3, y4, y5, y6⟩ := box7_of HMv2_2.out
    obtain ⟨z0, z1, z2, z3, z4, z5, z6⟩ := box7_of HMv2_0.out
    have HSM := Lib.hid (same_c V2 V2 _ _ _ _ v2 HXv2_2.out HXv2_0.out (fun b hb => by omega) (fun b hb => by omega))
    go_wp2_with (go_at_call 7; refine (lnum12_c _ _).mono ?_; rintro e w' ⟨rfl, rfl⟩)
    refine HSM.out.mono ?_
    rintro e9 w5 ⟨rfl, hb5⟩
    rw [show sameV V2 V2 = true from sameV_iff.2 rfl]
    have HMw5_0 := Lib.hid ((hb5.block b0 (by omega)).trans HMv2_0.out)
    have HXw5_0 := Lib.hid (HXv2_0.out.keep (w' := w5) fun p hp => hb5.cell (p := p) (by have : p.block < b0 + 1 := hp; omega))
    have HBw5 := Lib.hid (HBv2.out.trans (hb5.mono (by omega)))
    have hsw5 : b0 + 1 ≤ w5.heap.size := by have := hb5.size; omega
    clear hb5 y0 y1 y2 y3 y4 y5 y6 z0 z1 z2 z3 z4 z5 z6
    go_upto_region 7 with fail
    obtain ⟨y0, y1, y2, y3, y4, y5, y6⟩ := box7_of HMw5_0.out
    have hc3 := reverse_c w5 (HT.out w5 HBw5.out) HXw5_0.out (fun b hb => by omega)
    obtain ⟨V3, hV3⟩ : ∃ V, WoV (errV V2) (revE V2) (revY V2) = V := ⟨_, rfl⟩
    obtain ⟨R3, hR3⟩ : ∃ R, WoR (errV V2) (revE V2) (revY V2) = R := ⟨_, rfl⟩
    have hrt := @rev_twice V2
    rw [hV3, hR3] at hc3 hrt
    have HC3 := Lib.hid hc3
    have HRT := Lib.hid hrt
    clear hV3 hR3 hrt
    clear hc3
    go_wp2_with fail
    refine HC3.out.mono ?_
    rintro e9 u3 ⟨⟨cs3, rfl, hv3⟩, hb3⟩
    obtain ⟨k3, neg3, A3, n3, c3, ex3, t3, LA3, ln3, lc3, KA3, kn3, kc3, rfl, -, -⟩ := hv3.seven
    have hsu3 : w5.heap.size ≤ u3.heap.size := hb3.size
    obtain ⟨b3, hb3e⟩ : ∃ b, u3.heap.size = b := ⟨_, rfl⟩
    obtain ⟨x3, hx3e⟩ : ∃ W, u3.alloc (.cells #[.int .i64 0, .bool false, .slice none 0 0, .int .i64 0, .string ⟨#[]⟩, .slice none 0 0, .slice none 0 0] 28) = W := ⟨_, rfl⟩
    have hax3 : Below b3 u3 x3 := by rw [← hx3e]; exact (Below.refl _ u3).alloc (by omega) _
    have hsx3 : x3.heap.size = b3 + 1 := by rw [← hx3e, World.size_alloc, hb3e]
    have hnx3 : x3.heap[b3]? = some (.cells #[.int .i64 0, .bool false, .slice none 0 0, .int .i64 0, .string ⟨#[]⟩, .slice none 0 0, .slice none 0 0] 28) := by rw [← hx3e, ← hb3e]; exact World.alloc_heap_new _ _
    obtain ⟨v3, hw3⟩ : ∃ W, (((((((x3.setCell ⟨b3, 0, none⟩ (.int .i64 k3)).setCell ⟨b3, 1, none⟩ (.bool neg3)).setCell ⟨b3, 2, none⟩ (.slice A3 n3 c3)).setCell ⟨b3, 3, none⟩ (.int .i64 ex3)).setCell ⟨b3, 4, none⟩ (.string t3)).setCell ⟨b3, 5, none⟩ (.slice LA3 ln3 lc3)).setCell ⟨b3, 6, none⟩ (.slice KA3 kn3 kc3)) = W := ⟨_, rfl⟩
    have hnv3 := heap_seven hnx3 (.int .i64 k3) (.bool neg3) (.slice A3 n3 c3) (.int .i64 ex3) (.string t3) (.slice LA3 ln3 lc3) (.slice KA3 kn3 kc3)
    have ha3 := below_seven hax3 (Nat.le_refl b3) (.int .i64 k3) (.bool neg3) (.slice A3 n3 c3) (.int .i64 ex3) (.string t3) (.slice LA3 ln3 lc3) (.slice KA3 kn3 kc3)
    rw [hw3] at hnv3 ha3
    have hsv3' : v3.heap.size = b3 + 1 := by rw [← hw3]; simp [World.setCell, hsx3]
    have hba3 : Below w5.heap.size w5 v3 := hb3.trans (ha3.mono (by omega))
    have HMv3_0 := Lib.hid ((hba3.block b0 (by omega)).trans HMw5_0.out)
    have HXv3_0 := Lib.hid (HXw5_0.out.keep (w' := v3) fun p hp => hba3.cell (p := p) (by have : p.block < b0 + 1 := hp; omega))
    have HMv3_3 := Lib.hid hnv3
    have HXv3_3 := Lib.hid ((hv3.keep (w' := v3) fun p hp => ha3.cell (p := p) (by have := hp.2; omega)).more (S' := fun b => b < b3 + 1) fun b hb => by have := hb.2; omega)
    have HBv3 := Lib.hid (HBw5.out.trans (hba3.mono (by omega)))
    have hsv3 : b3 + 1 ≤ v3.heap.size := by omega
    have hbb3 : b0 + 1 ≤ b3 := by omega
    obtain ⟨m0, m1, m2, m3, m4, m5, m6⟩ := box7_of hnx3
    have fm : ∀ j, x3.frozen? ⟨b3, j, none⟩ = false := fun j => frozen_of_row _ _ j _ _ hnx3
    have HW3 := Lib.hid hw3
    clear hv3 hb3 ha3 hba3 hw3 hsu3 hax3 hsx3 hnx3 hnv3 hsv3' y0 y1 y2 y3 y4 y5 y6 HC3
    go_upto_region 8 with fail
    try rw [hb3e]
    try rw [hx3e]
    rw [HW3.out]
    clear hb3e hx3e m0 m1 m2 m3 m4 m5 m6 fm
    obtain ⟨y0, y1, y2, y3, y4, y5, y6⟩ := box7_of HMv3_3.out
    have hc4 := reverse_c v3 (HT.out v3 HBv3.out) HXv3_3.out (fun b hb => by omega)
    obtain ⟨V4, hV4⟩ : ∃ V, WoV (errV V3) (revE V3) (revY V3) = V := ⟨_, rfl⟩
    obtain ⟨R4, hR4⟩ : ∃ R, WoR (errV V3) (revE V3) (revY V3) = R := ⟨_, rfl⟩
    have hrt := HRT.out
    rw [hV4, hR4] at hc4 hrt
    have HC4 := Lib.hid hc4
    have HRU := Lib.hid hrt
    clear hV4 hR4 hrt
    clear hc4
    go_wp2_with fail
    refine HC4.out.mono ?_
    rintro e9 u4 ⟨⟨cs4, rfl, hv4⟩, hb4⟩
    obtain ⟨k4, neg4, A4, n4, c4, ex4, t4, LA4, ln4, lc4, KA4, kn4, kc4, rfl, -, -⟩ := hv4.seven
    have hsu4 : v3.heap.size ≤ u4.heap.size := hb4.size
    obtain ⟨b4, hb4e⟩ : ∃ b, u4.heap.size = b := ⟨_, rfl⟩
    obtain ⟨x4, hx4e⟩ : ∃ W, u4.alloc (.cells #[.int .i64 0, .bool false, .slice none 0 0, .int .i64 0, .string ⟨#[]⟩, .slice none 0 0, .slice none 0 0] 28) = W := ⟨_, rfl⟩
    have hax4 : Below b4 u4 x4 := by rw [← hx4e]; exact (Below.refl _ u4).alloc (by omega) _
    have hsx4 : x4.heap.size = b4 + 1 := by rw [← hx4e, World.size_alloc, hb4e]
    have hnx4 : x4.heap[b4]? = some (.cells #[.int .i64 0, .bool false, .slice none 0 0, .int .i64 0, .string ⟨#[]⟩, .slice none 0 0, .slice none 0 0] 28) := by rw [← hx4e, ← hb4e]; exact World.alloc_heap_new _ _
    obtain ⟨v4, hw4⟩ : ∃ W, (((((((x4.setCell ⟨b4, 0, none⟩ (.int .i64 k4)).setCell ⟨b4, 1, none⟩ (.bool neg4)).setCell ⟨b4, 2, none⟩ (.slice A4 n4 c4)).setCell ⟨b4, 3, none⟩ (.int .i64 ex4)).setCell ⟨b4, 4, none⟩ (.string t4)).setCell ⟨b4, 5, none⟩ (.slice LA4 ln4 lc4)).setCell ⟨b4, 6, none⟩ (.slice KA4 kn4 kc4)) = W := ⟨_, rfl⟩
    have hnv4 := heap_seven hnx4 (.int .i64 k4) (.bool neg4) (.slice A4 n4 c4) (.int .i64 ex4) (.string t4) (.slice LA4 ln4 lc4) (.slice KA4 kn4 kc4)
    have ha4 := below_seven hax4 (Nat.le_refl b4) (.int .i64 k4) (.bool neg4) (.slice A4 n4 c4) (.int .i64 ex4) (.string t4) (.slice LA4 ln4 lc4) (.slice KA4 kn4 kc4)
    rw [hw4] at hnv4 ha4
    have hsv4' : v4.heap.size = b4 + 1 := by rw [← hw4]; simp [World.setCell, hsx4]
    have hba4 : Below v3.heap.size v3 v4 := hb4.trans (ha4.mono (by omega))
    have HMv4_0 := Lib.hid ((hba4.block b0 (by omega)).trans HMv3_0.out)
    have HXv4_0 := Lib.hid (HXv3_0.out.keep (w' := v4) fun p hp => hba4.cell (p := p) (by have : p.block < b0 + 1 := hp; omega))
    have HMv4_3 := Lib.hid ((hba4.block b3 (by omega)).trans HMv3_3.out)
    have HXv4_3 := Lib.hid (HXv3_3.out.keep (w' := v4) fun p hp => hba4.cell (p := p) (by have : p.block < b3 + 1 := hp; omega))
    have HMv4_4 := Lib.hid hnv4
    have HXv4_4 := Lib.hid ((hv4.keep (w' := v4) fun p hp => ha4.cell (p := p) (by have := hp.2; omega)).more (S' := fun b => b < b4 + 1) fun b hb => by have := hb.2; omega)
    have HBv4 := Lib.hid (HBv3.out.trans (hba4.mono (by omega)))
    have hsv4 : b4 + 1 ≤ v4.heap.size := by omega
    have hbb4 : b3 + 1 ≤ b4 := by omega
    obtain ⟨m0, m1, m2, m3, m4, m5, m6⟩ := box7_of hnx4
    have fm : ∀ j, x4.frozen? ⟨b4, j, none⟩ = false := fun j => frozen_of_row _ _ j _ _ hnx4
    have HW4 := Lib.hid hw4
    clear hv4 hb4 ha4 hba4 hw4 hsu4 hax4 hsx4 hnx4 hnv4 hsv4' y0 y1 y2 y3 y4 y5 y6 HC4
    go_upto_region 9 with fail
    try rw [hb4e]
    try rw [hx4e]
    rw [HW4.out]
    clear hb4e hx4e m0 m1 m2 m3 m4 m5 m6 fm
    by_cases hr : R3 = 0
    case neg =>
      have hr3 : ((R3 : Int) == 0) = false := by rw [beq_eq_false_iff_ne]; omega
      have hr3' : ((R3 : Int) != 0) = true := by simp; omega
      go_wp2_with (go_at_call 7; refine (lnum12_c _ _).mono ?_; rintro e w' ⟨rfl, rfl⟩)
      go_ret
      exact ⟨rfl, HBv4.out⟩
    obtain ⟨hr4, hx4⟩ := HRU.out hr
    subst hr hr4
    obtain ⟨y0, y1, y2, y3, y4, y5, y6⟩ := box7_of HMv4_0.out
    obtain ⟨z0, z1, z2, z3, z4, z5, z6⟩ := box7_of HMv4_4.out
    by_cases hk0 : k0 = 0
    · subst hk0
      clear hx4
      go_wp2_with (go_at_call 7; refine (lnum12_c _ _).mono ?_; rintro e w' ⟨rfl, rfl⟩)
      go_ret
      exact ⟨rfl, HBv4.out⟩
    · have hk0b : (k0 == 0) = false := by simpa using hk0
      have hxk : V2.kind ≠ 0 := by rw [HKX.out]; exact hk0
      obtain rfl : V4 = V2 := hx4.resolve_left hxk
      have HSM := Lib.hid (same_c V4 V4 _ _ _ _ v4 HXv4_4.out HXv4_0.out (fun b hb => by omega) (fun b hb => by omega))
      clear hxk hx4
      go_wp2_with (go_at_call 7; refine (lnum12_c _ _).mono ?_; rintro e w' ⟨rfl, rfl⟩)
      refine HSM.out.mono ?_
      rintro e9 w9 ⟨rfl, hb9⟩
      rw [show sameV V4 V4 = true from sameV_iff.2 rfl]
      go_wp2_with fail
      go_ret
      exact ⟨rfl, HBv4.out.trans (hb9.mono (by omega))⟩

  · have hr1b : ((R1 : Int) == 0) = false := by rw [beq_eq_false_iff_ne]; omega
    go_upto_region 7 with (go_at_call 7; refine (lnum12_c _ _).mono ?_; rintro e w' ⟨rfl, rfl⟩)
    obtain ⟨y0, y1, y2, y3, y4, y5, y6⟩ := box7_of HMv2_0.out
    have hc3 := reverse_c v2 (HT.out v2 HBv2.out) HXv2_0.out (fun b hb => by omega)
    obtain ⟨V3, hV3⟩ : ∃ V, WoV (errV x) (revE x) (revY x) = V := ⟨_, rfl⟩
    obtain ⟨R3, hR3⟩ : ∃ R, WoR (errV x) (revE x) (revY x) = R := ⟨_, rfl⟩
    have hrt := @rev_twice x
    rw [hV3, hR3] at hc3 hrt
    have HC3 := Lib.hid hc3
    have HRT := Lib.hid hrt
    clear hV3 hR3 hrt
    clear hc3
    go_wp2_with fail
    refine HC3.out.mono ?_
    rintro e9 u3 ⟨⟨cs3, rfl, hv3⟩, hb3⟩
    obtain ⟨k3, neg3, A3, n3, c3, ex3, t3, LA3, ln3, lc3, KA3, kn3, kc3, rfl, -, -⟩ := hv3.seven
    have hsu3 : v2.heap.size ≤ u3.heap.size := hb3.size
    obtain ⟨b3, hb3e⟩ : ∃ b, u3.heap.size = b := ⟨_, rfl⟩
    obtain ⟨x3, hx3e⟩ : ∃ W, u3.alloc (.cells #[.int .i64 0, .bool false, .slice none 0 0, .int .i64 0, .string ⟨#[]⟩, .slice none 0 0, .slice none 0 0] 28) = W := ⟨_, rfl⟩
    have hax3 : Below b3 u3 x3 := by rw [← hx3e]; exact (Below.refl _ u3).alloc (by omega) _
    have hsx3 : x3.heap.size = b3 + 1 := by rw [← hx3e, World.size_alloc, hb3e]
    have hnx3 : x3.heap[b3]? = some (.cells #[.int .i64 0, .bool false, .slice none 0 0, .int .i64 0, .string ⟨#[]⟩, .slice none 0 0, .slice none 0 0] 28) := by rw [← hx3e, ← hb3e]; exact World.alloc_heap_new _ _
    obtain ⟨v3, hw3⟩ : ∃ W, (((((((x3.setCell ⟨b3, 0, none⟩ (.int .i64 k3)).setCell ⟨b3, 1, none⟩ (.bool neg3)).setCell ⟨b3, 2, none⟩ (.slice A3 n3 c3)).setCell ⟨b3, 3, none⟩ (.int .i64 ex3)).setCell ⟨b3, 4, none⟩ (.string t3)).setCell ⟨b3, 5, none⟩ (.slice LA3 ln3 lc3)).setCell ⟨b3, 6, none⟩ (.slice KA3 kn3 kc3)) = W := ⟨_, rfl⟩
    have hnv3 := heap_seven hnx3 (.int .i64 k3) (.bool neg3) (.slice A3 n3 c3) (.int .i64 ex3) (.string t3) (.slice LA3 ln3 lc3) (.slice KA3 kn3 kc3)
    have ha3 := below_seven hax3 (Nat.le_refl b3) (.int .i64 k3) (.bool neg3) (.slice A3 n3 c3) (.int .i64 ex3) (.string t3) (.slice LA3 ln3 lc3) (.slice KA3 kn3 kc3)
    rw [hw3] at hnv3 ha3
    have hsv3' : v3.heap.size = b3 + 1 := by rw [← hw3]; simp [World.setCell, hsx3]
    have hba3 : Below v2.heap.size v2 v3 := hb3.trans (ha3.mono (by omega))
    have HMv3_0 := Lib.hid ((hba3.block b0 (by omega)).trans HMv2_0.out)
    have HXv3_0 := Lib.hid (HXv2_0.out.keep (w' := v3) fun p hp => hba3.cell (p := p) (by have : p.block < b0 + 1 := hp; omega))
    have HMv3_3 := Lib.hid hnv3
    have HXv3_3 := Lib.hid ((hv3.keep (w' := v3) fun p hp => ha3.cell (p := p) (by have := hp.2; omega)).more (S' := fun b => b < b3 + 1) fun b hb => by have := hb.2; omega)
    have HBv3 := Lib.hid (HBv2.out.trans (hba3.mono (by omega)))
    have hsv3 : b3 + 1 ≤ v3.heap.size := by omega
    have hbb3 : b0 + 1 ≤ b3 := by omega
    obtain ⟨m0, m1, m2, m3, m4, m5, m6⟩ := box7_of hnx3
    have fm : ∀ j, x3.frozen? ⟨b3, j, none⟩ = false := fun j => frozen_of_row _ _ j _ _ hnx3
    have HW3 := Lib.hid hw3
    clear hv3 hb3 ha3 hba3 hw3 hsu3 hax3 hsx3 hnx3 hnv3 hsv3' y0 y1 y2 y3 y4 y5 y6 HC3
    go_upto_region 8 with fail
    try rw [hb3e]
    try rw [hx3e]
    rw [HW3.out]
    clear hb3e hx3e m0 m1 m2 m3 m4 m5 m6 fm
    obtain ⟨y0, y1, y2, y3, y4, y5, y6⟩ := box7_of HMv3_3.out
    have hc4 := reverse_c v3 (HT.out v3 HBv3.out) HXv3_3.out (fun b hb => by omega)
    obtain ⟨V4, hV4⟩ : ∃ V, WoV (errV V3) (revE V3) (revY V3) = V := ⟨_, rfl⟩
    obtain ⟨R4, hR4⟩ : ∃ R, WoR (errV V3) (revE V3) (revY V3) = R := ⟨_, rfl⟩
    have hrt := HRT.out
    rw [hV4, hR4] at hc4 hrt
    have HC4 := Lib.hid hc4
    have HRU := Lib.hid hrt
    clear hV4 hR4 hrt
    clear hc4
    go_wp2_with fail
    refine HC4.out.mono ?_
    rintro e9 u4 ⟨⟨cs4, rfl, hv4⟩, hb4⟩
    obtain ⟨k4, neg4, A4, n4, c4, ex4, t4, LA4, ln4, lc4, KA4, kn4, kc4, rfl, -, -⟩ := hv4.seven
    have hsu4 : v3.heap.size ≤ u4.heap.size := hb4.size
    obtain ⟨b4, hb4e⟩ : ∃ b, u4.heap.size = b := ⟨_, rfl⟩
    obtain ⟨x4, hx4e⟩ : ∃ W, u4.alloc (.cells #[.int .i64 0, .bool false, .slice none 0 0, .int .i64 0, .string ⟨#[]⟩, .slice none 0 0, .slice none 0 0] 28) = W := ⟨_, rfl⟩
    have hax4 : Below b4 u4 x4 := by rw [← hx4e]; exact (Below.refl _ u4).alloc (by omega) _
    have hsx4 : x4.heap.size = b4 + 1 := by rw [← hx4e, World.size_alloc, hb4e]
    have hnx4 : x4.heap[b4]? = some (.cells #[.int .i64 0, .bool false, .slice none 0 0, .int .i64 0, .string ⟨#[]⟩, .slice none 0 0, .slice none 0 0] 28) := by rw [← hx4e, ← hb4e]; exact World.alloc_heap_new _ _
    obtain ⟨v4, hw4⟩ : ∃ W, (((((((x4.setCell ⟨b4, 0, none⟩ (.int .i64 k4)).setCell ⟨b4, 1, none⟩ (.bool neg4)).setCell ⟨b4, 2, none⟩ (.slice A4 n4 c4)).setCell ⟨b4, 3, none⟩ (.int .i64 ex4)).setCell ⟨b4, 4, none⟩ (.string t4)).setCell ⟨b4, 5, none⟩ (.slice LA4 ln4 lc4)).setCell ⟨b4, 6, none⟩ (.slice KA4 kn4 kc4)) = W := ⟨_, rfl⟩
    have hnv4 := heap_seven hnx4 (.int .i64 k4) (.bool neg4) (.slice A4 n4 c4) (.int .i64 ex4) (.string t4) (.slice LA4 ln4 lc4) (.slice KA4 kn4 kc4)
    have ha4 := below_seven hax4 (Nat.le_refl b4) (.int .i64 k4) (.bool neg4) (.slice A4 n4 c4) (.int .i64 ex4) (.string t4) (.slice LA4 ln4 lc4) (.slice KA4 kn4 kc4)
    rw [hw4] at hnv4 ha4
    have hsv4' : v4.heap.size = b4 + 1 := by rw [← hw4]; simp [World.setCell, hsx4]
    have hba4 : Below v3.heap.size v3 v4 := hb4.trans (ha4.mono (by omega))
    have HMv4_0 := Lib.hid ((hba4.block b0 (by omega)).trans HMv3_0.out)
    have HXv4_0 := Lib.hid (HXv3_0.out.keep (w' := v4) fun p hp => hba4.cell (p := p) (by have : p.block < b0 + 1 := hp; omega))
    have HMv4_3 := Lib.hid ((hba4.block b3 (by omega)).trans HMv3_3.out)
    have HXv4_3 := Lib.hid (HXv3_3.out.keep (w' := v4) fun p hp => hba4.cell (p := p) (by have : p.block < b3 + 1 := hp; omega))
    have HMv4_4 := Lib.hid hnv4
    have HXv4_4 := Lib.hid ((hv4.keep (w' := v4) fun p hp => ha4.cell (p := p) (by have := hp.2; omega)).more (S' := fun b => b < b4 + 1) fun b hb => by have := hb.2; omega)
    have HBv4 := Lib.hid (HBv3.out.trans (hba4.mono (by omega)))
    have hsv4 : b4 + 1 ≤ v4.heap.size := by omega
    have hbb4 : b3 + 1 ≤ b4 := by omega
    obtain ⟨m0, m1, m2, m3, m4, m5, m6⟩ := box7_of hnx4
    have fm : ∀ j, x4.frozen? ⟨b4, j, none⟩ = false := fun j => frozen_of_row _ _ j _ _ hnx4
    have HW4 := Lib.hid hw4
    clear hv4 hb4 ha4 hba4 hw4 hsu4 hax4 hsx4 hnx4 hnv4 hsv4' y0 y1 y2 y3 y4 y5 y6 HC4
    go_upto_region 9 with fail
    try rw [hb4e]
    try rw [hx4e]
    rw [HW4.out]
    clear hb4e hx4e m0 m1 m2 m3 m4 m5 m6 fm
    by_cases hr : R3 = 0
    case neg =>
      have hr3 : ((R3 : Int) == 0) = false := by rw [beq_eq_false_iff_ne]; omega
      have hr3' : ((R3 : Int) != 0) = true := by simp; omega
      go_wp2_with (go_at_call 7; refine (lnum12_c _ _).mono ?_; rintro e w' ⟨rfl, rfl⟩)
      go_ret
      exact ⟨rfl, HBv4.out⟩
    obtain ⟨hr4, hx4⟩ := HRU.out hr
    subst hr hr4
    obtain ⟨y0, y1, y2, y3, y4, y5, y6⟩ := box7_of HMv4_0.out
    obtain ⟨z0, z1, z2, z3, z4, z5, z6⟩ := box7_of HMv4_4.out
    by_cases hk0 : k0 = 0
    · subst hk0
      clear hx4
      go_wp2_with (go_at_call 7; refine (lnum12_c _ _).mono ?_; rintro e w' ⟨rfl, rfl⟩)
      go_ret
      exact ⟨rfl, HBv4.out⟩
    · have hk0b : (k0 == 0) = false := by simpa using hk0
      have hxk : x.kind ≠ 0 := by rw [HKX.out]; exact hk0
      obtain rfl : V4 = x := hx4.resolve_left hxk
      have HSM := Lib.hid (same_c V4 V4 _ _ _ _ v4 HXv4_4.out HXv4_0.out (fun b hb => by omega) (fun b hb => by omega))
      clear hxk hx4
      go_wp2_with (go_at_call 7; refine (lnum12_c _ _).mono ?_; rintro e w' ⟨rfl, rfl⟩)
      refine HSM.out.mono ?_
      rintro e9 w9 ⟨rfl, hb9⟩
      rw [show sameV V4 V4 = true from sameV_iff.2 rfl]
      go_wp2_with fail
      go_ret
      exact ⟨rfl, HBv4.out.trans (hb9.mono (by omega))⟩

end Go.Proofs.YtpmdcahomkdfmaaGreatDoor
