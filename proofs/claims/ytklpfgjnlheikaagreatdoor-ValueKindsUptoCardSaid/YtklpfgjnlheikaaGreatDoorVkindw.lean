/-
  The walk of value's ValueKinds.
-/
import Derived.Test.YtklpfgjnlheikaaGreatDoorVkindq
import Derived.Deep.QuietTactic
import Derived.BigQuiet
set_option linter.unusedVariables false
set_option linter.unusedSimpArgs false
namespace Go.Proofs.YtklpfgjnlheikaaGreatDoor
open Go.RowKit

set_option maxRecDepth 100000 in
set_option maxHeartbeats 8000000 in
theorem valueKinds_c {S : Nat → Prop} {x y : VT} {cs ds : List Value} {n m : Int} (w : World) (hT : Tabs w) (hx : VIn w S x cs) (hy : VIn w S y ds) (hS : ∀ b, S b → b < w.heap.size) (hn : -9223372036854775808 ≤ n ∧ n ≤ 9223372036854775807) (hm : -9223372036854775808 ≤ m ∧ m ≤ 9223372036854775807) (hux : under x ≤ 1048576) (huy : under y ≤ 1048576) :
    Calls Tryz.prog 8 #[.agg cs.toArray, .agg ds.toArray, .int .i64 n, .int .i64 m] w fun e w' => e = .returned (.bool true) ∧ Below w.heap.size w w' := by
  have HX := Lib.hid hx
  have HY := Lib.hid hy
  have HS := Lib.hid hS
  have HT := Lib.hid hT
  have HA := fun W (h : Tabs W) => alive_c W h
  obtain ⟨k1, n1, u1, e1, t1, l1, ks1, h1k⟩ : ∃ k neg xs e t li ks, x = VT.mk k neg xs e t li ks := by cases x; exact ⟨_, _, _, _, _, _, _, rfl⟩
  rw [h1k] at hx
  obtain ⟨k2, n2, u2, e2, t2, l2, ks2, h2k⟩ : ∃ k neg xs e t li ks, y = VT.mk k neg xs e t li ks := by cases y; exact ⟨_, _, _, _, _, _, _, rfl⟩
  rw [h2k] at hy
  obtain ⟨A1, m1, c1, LA1, lm1, lc1, KA1, km1, kc1, rfl, -⟩ := hx.parts
  obtain ⟨A2, m2, c2, LA2, lm2, lc2, KA2, km2, kc2, rfl, -⟩ := hy.parts
  have hkx : x.kind = k1 := by rw [h1k]; rfl
  have hky : y.kind = k2 := by rw [h2k]; rfl
  have HKX := Lib.hid hkx
  have HKY := Lib.hid hky
  have HUX := Lib.hid hux
  have HUY := Lib.hid huy
  have HN := Lib.hid hn
  have HM := Lib.hid hm
  clear hx hy h1k h2k hS hT hkx hky hux huy hn hm
  have hW : Below w.heap.size w ((w.alloc (.cells #[.int .i64 k1, .bool n1, .slice A1 m1 c1, .int .i64 e1, .string t1, .slice LA1 lm1 lc1, .slice KA1 km1 kc1] 53)).alloc (.cells #[.int .i64 k2, .bool n2, .slice A2 m2 c2, .int .i64 e2, .string t2, .slice LA2 lm2 lc2, .slice KA2 km2 kc2] 53)) := ((Below.refl _ w).alloc (Nat.le_refl _) _).alloc (by simp) _
  have hm1 : ((w.alloc (.cells #[.int .i64 k1, .bool n1, .slice A1 m1 c1, .int .i64 e1, .string t1, .slice LA1 lm1 lc1, .slice KA1 km1 kc1] 53)).alloc (.cells #[.int .i64 k2, .bool n2, .slice A2 m2 c2, .int .i64 e2, .string t2, .slice LA2 lm2 lc2, .slice KA2 km2 kc2] 53)).heap[w.heap.size]? = some (.cells #[.int .i64 k1, .bool n1, .slice A1 m1 c1, .int .i64 e1, .string t1, .slice LA1 lm1 lc1, .slice KA1 km1 kc1] 53) := (Below.heap_alloc _ _ _ (by simp)).trans (World.alloc_heap_new w _)
  have hm2 : ((w.alloc (.cells #[.int .i64 k1, .bool n1, .slice A1 m1 c1, .int .i64 e1, .string t1, .slice LA1 lm1 lc1, .slice KA1 km1 kc1] 53)).alloc (.cells #[.int .i64 k2, .bool n2, .slice A2 m2 c2, .int .i64 e2, .string t2, .slice LA2 lm2 lc2, .slice KA2 km2 kc2] 53)).heap[w.heap.size + 1]? = some (.cells #[.int .i64 k2, .bool n2, .slice A2 m2 c2, .int .i64 e2, .string t2, .slice LA2 lm2 lc2, .slice KA2 km2 kc2] 53) := by
    have := World.alloc_heap_new (w.alloc (.cells #[.int .i64 k1, .bool n1, .slice A1 m1 c1, .int .i64 e1, .string t1, .slice LA1 lm1 lc1, .slice KA1 km1 kc1] 53)) (.cells #[.int .i64 k2, .bool n2, .slice A2 m2 c2, .int .i64 e2, .string t2, .slice LA2 lm2 lc2, .slice KA2 km2 kc2] 53)
    rwa [World.size_alloc] at this
  go_enter Tryz.func8, Tryz.ntmps8
  go_upto_region 1 with fail
  generalize ((w.alloc (.cells #[.int .i64 k1, .bool n1, .slice A1 m1 c1, .int .i64 e1, .string t1, .slice LA1 lm1 lc1, .slice KA1 km1 kc1] 53)).alloc (.cells #[.int .i64 k2, .bool n2, .slice A2 m2 c2, .int .i64 e2, .string t2, .slice LA2 lm2 lc2, .slice KA2 km2 kc2] 53)) = w0 at *
  have HT0 := Lib.hid (HT.out.below hW)
  have HB0 := Lib.hid hW
  have M10 := Lib.hid hm1
  have M20 := Lib.hid hm2
  clear hW hm1 hm2
  have HC := HA w0 HT0.out
  clear HA
  go_upto_region 3 with (refine HC.mono ?_; rintro e' w1 ⟨rfl, hb'⟩)
  have HT1 := Lib.hid (HT0.out.below hb')
  have HB1 := Lib.hid (HB0.out.trans (hb'.mono HB0.out.size))
  have M11 := Lib.hid ((hb'.block _ (Array.getElem?_eq_some_iff.1 M10.out).1).trans M10.out)
  have M21 := Lib.hid ((hb'.block _ (Array.getElem?_eq_some_iff.1 M20.out).1).trans M20.out)
  clear HT0 HB0 M10 M20 hb' HC
  have HC := VCompare_c w1 HT1.out (HX.out.keep fun p hp => HB1.out.cell (HS.out _ hp)) (HY.out.keep fun p hp => HB1.out.cell (HS.out _ hp)) (fun b hb => Nat.lt_of_lt_of_le (HS.out b hb) HB1.out.size)
  obtain ⟨X3, hX3⟩ : ∃ X, cmp2 x y = X := ⟨_, rfl⟩
  obtain ⟨E3, hE3⟩ : ∃ E, err2 x y = E := ⟨_, rfl⟩
  rw [hX3, hE3] at HC
  have HX3 := Lib.hid hX3
  have HE3 := Lib.hid hE3
  clear hX3 hE3
  obtain ⟨x0, x1, x2, x3, x4, x5, x6⟩ := box7_of M11.out
  obtain ⟨y0, y1, y2, y3, y4, y5, y6⟩ := box7_of M21.out
  go_wp2_with fail
  refine HC.mono ?_
  rintro e' w2 ⟨rfl, hb'⟩
  clear x0 x1 x2 x3 x4 x5 x6 y0 y1 y2 y3 y4 y5 y6
  have HT2 := Lib.hid (HT1.out.below hb')
  have HB2 := Lib.hid (HB1.out.trans (hb'.mono HB1.out.size))
  have M12 := Lib.hid ((hb'.block _ (Array.getElem?_eq_some_iff.1 M11.out).1).trans M11.out)
  have M22 := Lib.hid ((hb'.block _ (Array.getElem?_eq_some_iff.1 M21.out).1).trans M21.out)
  clear HT1 HB1 M11 M21 hb' HC
  -- the numbers
  go_upto_region 4 with fail
  have HC1 := number_c w2 n HN.out.1 HN.out.2 (num_len HN.out.1 HN.out.2)
  go_wp2_with fail
  refine HC1.mono ?_
  rintro e' w3 ⟨cs1, rfl, hv1, hb3⟩
  have HV1 : Hid (VIn w3 (Own' w2.heap.size w3) (numT n) cs1) := Lib.hid hv1
  clear HC1 hv1
  have HC2 := number_c w3 m HM.out.1 HM.out.2 (num_len HM.out.1 HM.out.2)
  go_wp2_with fail
  refine HC2.mono ?_
  rintro e' w4 ⟨cs2, rfl, hv2, hb4⟩
  have HV2 : Hid (VIn w4 (Own' w3.heap.size w4) (numT m) cs2) := Lib.hid hv2
  clear HC2 hv2
  have hb24 := hb3.trans (hb4.mono hb3.size)
  have herr : err2 (numT n) (numT m) = 0 := err2_zero.2 ⟨num_ok HN.out.1 HN.out.2, num_ok HM.out.1 HM.out.2⟩
  have hord := num_ord HN.out HM.out
  rw [← cmp2_ok herr] at hord
  have HC3 := VCompare_c (S := fun b => b < w4.heap.size) w4 (HT2.out.below hb24) ((HV1.out.keep fun p hp => hb4.cell hp.lt).more fun b hb => Nat.lt_of_lt_of_le hb.lt hb4.size) (HV2.out.more fun b hb => hb.lt) (fun b h => h)
  rw [herr] at HC3
  obtain ⟨D, hD⟩ : ∃ D, cmp2 (numT n) (numT m) = D := ⟨_, rfl⟩
  rw [hD] at HC3 hord
  clear hb3 hb4 hD herr
  have HORD := Lib.hid hord
  clear hord
  have HB24 := Lib.hid hb24
  clear hb24
  go_wp2_with fail
  refine HC3.mono ?_
  rintro e' w5 ⟨rfl, hb'⟩
  have hb25 := HB24.out.trans (hb'.mono HB24.out.size)
  have HT5 := Lib.hid (HT2.out.below hb25)
  have HB5 := Lib.hid (HB2.out.trans (hb25.mono HB2.out.size))
  have M15 := Lib.hid ((hb25.block _ (Array.getElem?_eq_some_iff.1 M12.out).1).trans M12.out)
  have M25 := Lib.hid ((hb25.block _ (Array.getElem?_eq_some_iff.1 M22.out).1).trans M22.out)
  clear HT2 HB2 M12 M22 hb' hb25 HC3 HB24 HV1 HV2
  have hz15 := (Array.getElem?_eq_some_iff.1 M15.out).1
  have hz25 := (Array.getElem?_eq_some_iff.1 M25.out).1
  have hSS : ∀ W, Below w5.heap.size w5 W → W.cell? ⟨w.heap.size, 0, none⟩ = some (.int .i64 k1) ∧ W.cell? ⟨w.heap.size, 1, none⟩ = some (.bool n1) ∧ W.cell? ⟨w.heap.size, 2, none⟩ = some (.slice A1 m1 c1) ∧ W.cell? ⟨w.heap.size, 3, none⟩ = some (.int .i64 e1) ∧ W.cell? ⟨w.heap.size, 4, none⟩ = some (.string t1) ∧ W.cell? ⟨w.heap.size, 5, none⟩ = some (.slice LA1 lm1 lc1) ∧ W.cell? ⟨w.heap.size, 6, none⟩ = some (.slice KA1 km1 kc1) ∧ W.cell? ⟨w.heap.size + 1, 0, none⟩ = some (.int .i64 k2) ∧ W.cell? ⟨w.heap.size + 1, 1, none⟩ = some (.bool n2) ∧ W.cell? ⟨w.heap.size + 1, 2, none⟩ = some (.slice A2 m2 c2) ∧ W.cell? ⟨w.heap.size + 1, 3, none⟩ = some (.int .i64 e2) ∧ W.cell? ⟨w.heap.size + 1, 4, none⟩ = some (.string t2) ∧ W.cell? ⟨w.heap.size + 1, 5, none⟩ = some (.slice LA2 lm2 lc2) ∧ W.cell? ⟨w.heap.size + 1, 6, none⟩ = some (.slice KA2 km2 kc2) := fun W hW => by
    obtain ⟨x0, x1, x2, x3, x4, x5, x6⟩ := box7_of ((hW.block _ hz15).trans M15.out)
    obtain ⟨y0, y1, y2, y3, y4, y5, y6⟩ := box7_of ((hW.block _ hz25).trans M25.out)
    exact ⟨x0, x1, x2, x3, x4, x5, x6, y0, y1, y2, y3, y4, y5, y6⟩
  have HSS := Lib.hid hSS
  clear hSS
  go_upto_region 5 with fail
  refine wp_region_held_drew (S := fun w' => w'.cell? ⟨w.heap.size, 0, none⟩ = some (.int .i64 k1) ∧ w'.cell? ⟨w.heap.size, 1, none⟩ = some (.bool n1) ∧ w'.cell? ⟨w.heap.size, 2, none⟩ = some (.slice A1 m1 c1) ∧ w'.cell? ⟨w.heap.size, 3, none⟩ = some (.int .i64 e1) ∧ w'.cell? ⟨w.heap.size, 4, none⟩ = some (.string t1) ∧ w'.cell? ⟨w.heap.size, 5, none⟩ = some (.slice LA1 lm1 lc1) ∧ w'.cell? ⟨w.heap.size, 6, none⟩ = some (.slice KA1 km1 kc1) ∧ w'.cell? ⟨w.heap.size + 1, 0, none⟩ = some (.int .i64 k2) ∧ w'.cell? ⟨w.heap.size + 1, 1, none⟩ = some (.bool n2) ∧ w'.cell? ⟨w.heap.size + 1, 2, none⟩ = some (.slice A2 m2 c2) ∧ w'.cell? ⟨w.heap.size + 1, 3, none⟩ = some (.int .i64 e2) ∧ w'.cell? ⟨w.heap.size + 1, 4, none⟩ = some (.string t2) ∧ w'.cell? ⟨w.heap.size + 1, 5, none⟩ = some (.slice LA2 lm2 lc2) ∧ w'.cell? ⟨w.heap.size + 1, 6, none⟩ = some (.slice KA2 km2 kc2)) (by kernel_rfl) (HSS.out _ (Below.refl _ _).drew) (fun hHeld => ?_)
  (try simp only [List.size_toArray, List.length_cons, List.length_nil, Nat.reduceAdd, Array.replicate_succ, Array.replicate_zero, List.push_toArray, List.append_toArray, List.nil_append, List.cons_append])
  refine wpAnyH_take (i := 0) (oi := ⟨_, _, _, _, _, _⟩) (v := ?_) rfl (by kernel_rfl) (by kernel_rfl) (by kernel_rfl) (fun _ _ _ h => h) (Or.inl ⟨by rfl, ?_⟩) (by assumption) ?_
  rotate_left
  · intro w hSw
    (try dsimp only at hSw)
    go_split_ands
    go_simp
    try with_reducible rfl
  try simp only [Act.put, List.setIfInBounds_toArray, List.set_cons_zero, List.set_cons_succ]
  refine wpAnyH_take (i := 3) (oi := ⟨_, _, _, _, _, _⟩) (v := ?_) rfl (by kernel_rfl) (by kernel_rfl) (by kernel_rfl) (fun _ _ _ h => h) (Or.inl ⟨by rfl, ?_⟩) (by assumption) ?_
  rotate_left
  · intro w hSw
    (try dsimp only at hSw)
    go_split_ands
    go_simp
    try with_reducible rfl
  try simp only [Act.put, List.setIfInBounds_toArray, List.set_cons_zero, List.set_cons_succ]
  refine wpAnyH_take (i := 4) (oi := ⟨_, _, _, _, _, _⟩) (v := ?_) rfl (by kernel_rfl) (by kernel_rfl) (by kernel_rfl) (fun _ _ _ h => h) (Or.inl ⟨by rfl, ?_⟩) (by assumption) ?_
  rotate_left
  · intro w hSw
    (try dsimp only at hSw)
    go_split_ands
    go_simp
    try with_reducible rfl
  try simp only [Act.put, List.setIfInBounds_toArray, List.set_cons_zero, List.set_cons_succ]
  have hbA : Below w5.heap.size w5 ((w5.alloc (.cells #[.int .i64 k1, .bool n1, .slice A1 m1 c1, .int .i64 e1, .string t1, .slice LA1 lm1 lc1, .slice KA1 km1 kc1] 53)).drew) := ((Below.refl w5.heap.size w5).alloc (Nat.le_refl _) _).drew
  have hbB : Below w5.heap.size w5 ((w5.alloc (.cells #[.int .i64 k1, .bool n1, .slice A1 m1 c1, .int .i64 e1, .string t1, .slice LA1 lm1 lc1, .slice KA1 km1 kc1, .int .i64 k2, .bool n2, .slice A2 m2 c2, .int .i64 e2, .string t2, .slice LA2 lm2 lc2, .slice KA2 km2 kc2] 53)).drew) := ((Below.refl w5.heap.size w5).alloc (Nat.le_refl _) _).drew
  have hA1 : ((w5.alloc (.cells #[.int .i64 k1, .bool n1, .slice A1 m1 c1, .int .i64 e1, .string t1, .slice LA1 lm1 lc1, .slice KA1 km1 kc1] 53)).drew).heap[w5.heap.size]? = some (.cells #[.int .i64 k1, .bool n1, .slice A1 m1 c1, .int .i64 e1, .string t1, .slice LA1 lm1 lc1, .slice KA1 km1 kc1] 53) := World.alloc_heap_new w5 _
  have hB1 : ((w5.alloc (.cells #[.int .i64 k1, .bool n1, .slice A1 m1 c1, .int .i64 e1, .string t1, .slice LA1 lm1 lc1, .slice KA1 km1 kc1, .int .i64 k2, .bool n2, .slice A2 m2 c2, .int .i64 e2, .string t2, .slice LA2 lm2 lc2, .slice KA2 km2 kc2] 53)).drew).heap[w5.heap.size]? = some (.cells #[.int .i64 k1, .bool n1, .slice A1 m1 c1, .int .i64 e1, .string t1, .slice LA1 lm1 lc1, .slice KA1 km1 kc1, .int .i64 k2, .bool n2, .slice A2 m2 c2, .int .i64 e2, .string t2, .slice LA2 lm2 lc2, .slice KA2 km2 kc2] 53) := World.alloc_heap_new w5 _
  refine wpAnyH_ready (rs := [1, 5]) (by kernel_rfl) (by simp) (AllReadyH.cons (o := ⟨_, _, _, _, _, _⟩) rfl (fun K hK => ?gp) (AllReadyH.cons (o := ⟨_, _, _, _, _, _⟩) rfl (fun K hK => ?gq) AllReadyH.nil))
  case' gp =>
    go_simp
    refine hK.out _ _ (HSS.out _ hbA) (fun hHeld2 => ?_)
    clear hK K hHeld hbB hB1
    try simp only [Act.put, List.setIfInBounds_toArray, List.set_cons_zero, List.set_cons_succ]
    refine wpAnyH_ready (rs := [2, 5]) (by kernel_rfl) (by simp) (AllReadyH.cons (o := ⟨_, _, _, _, _, _⟩) rfl (fun K hK => ?gp1) (AllReadyH.cons (o := ⟨_, _, _, _, _, _⟩) rfl (fun K hK => ?gp2) AllReadyH.nil))
    case' gp1 =>
      go_simp
      have hl1 := rdl1 (S := fun b => b < ((w5.alloc (.cells #[.int .i64 k1, .bool n1, .slice A1 m1 c1, .int .i64 e1, .string t1, .slice LA1 lm1 lc1, .slice KA1 km1 kc1] 53)).drew).heap.size) ((HX.out.keep fun p hp => (hbA.cell (Nat.lt_of_lt_of_le (HS.out _ hp) HB5.out.size)).trans (HB5.out.cell (HS.out _ hp))).more fun b hb => Nat.lt_of_lt_of_le (Nat.lt_of_lt_of_le (HS.out b hb) HB5.out.size) hbA.size) hA1 (Array.getElem?_eq_some_iff.1 hA1).1
      refine (list_c (c := 1) ((w5.alloc (.cells #[.int .i64 k1, .bool n1, .slice A1 m1 c1, .int .i64 e1, .string t1, .slice LA1 lm1 lc1, .slice KA1 km1 kc1] 53)).drew) hl1 (by omega) (Nat.le_refl _) (fun b h => h) (by have := HUX.out; simp only [underL]; omega)).mono ?_
      rintro e' V2 ⟨q1, rfl, hq1, hbV⟩
      have HQ1 : Hid (VIn V2 (Own' ((w5.alloc (.cells #[.int .i64 k1, .bool n1, .slice A1 m1 c1, .int .i64 e1, .string t1, .slice LA1 lm1 lc1, .slice KA1 km1 kc1] 53)).drew).heap.size V2) (list1 x) q1) := Lib.hid hq1
      clear hq1 hl1
      have hbV2 := hbA.trans (hbV.mono hbA.size)
      (try dsimp only)
      refine hK.out _ _ (HSS.out _ hbV2) (fun hHeld4 => ?_)
      clear hK K
      try simp only [Act.put, List.setIfInBounds_toArray, List.set_cons_zero, List.set_cons_succ]
      clear hHeld2
      refine wpAnyH_ready (rs := [5]) (by kernel_rfl) (by simp) (AllReadyH.cons (o := ⟨_, _, _, _, _, _⟩) rfl (fun K hK => ?_) AllReadyH.nil)
      go_simp
      have hbN : Below V2.heap.size V2 (V2.alloc (.cells #[.int .i64 k1, .bool n1, .slice A1 m1 c1, .int .i64 e1, .string t1, .slice LA1 lm1 lc1, .slice KA1 km1 kc1, .int .i64 k2, .bool n2, .slice A2 m2 c2, .int .i64 e2, .string t2, .slice LA2 lm2 lc2, .slice KA2 km2 kc2] 53)) := (Below.refl V2.heap.size V2).alloc (Nat.le_refl _) _
      refine hK.out _ _ (HSS.out _ (hbV2.trans (hbN.mono hbV2.size))) (fun hHeld5 => ?_)
      clear hK K hHeld4
      try simp only [Act.put, List.setIfInBounds_toArray, List.set_cons_zero, List.set_cons_succ]
      obtain ⟨SQ1, HQ1b, HSQ1⟩ : ∃ SQ1, Hid (VIn (V2.alloc (.cells #[.int .i64 k1, .bool n1, .slice A1 m1 c1, .int .i64 e1, .string t1, .slice LA1 lm1 lc1, .slice KA1 km1 kc1, .int .i64 k2, .bool n2, .slice A2 m2 c2, .int .i64 e2, .string t2, .slice LA2 lm2 lc2, .slice KA2 km2 kc2] 53)) SQ1 (list1 x) q1) ∧ Hid (∀ b, SQ1 b → b < (V2.alloc (.cells #[.int .i64 k1, .bool n1, .slice A1 m1 c1, .int .i64 e1, .string t1, .slice LA1 lm1 lc1, .slice KA1 km1 kc1, .int .i64 k2, .bool n2, .slice A2 m2 c2, .int .i64 e2, .string t2, .slice LA2 lm2 lc2, .slice KA2 km2 kc2] 53)).heap.size) := ⟨_, Lib.hid (HQ1.out.keep fun p hp => hbN.cell hp.2), Lib.hid fun b hb => Nat.lt_of_lt_of_le hb.2 hbN.size⟩
      have HBW : Hid (Below w5.heap.size w5 (V2.alloc (.cells #[.int .i64 k1, .bool n1, .slice A1 m1 c1, .int .i64 e1, .string t1, .slice LA1 lm1 lc1, .slice KA1 km1 kc1, .int .i64 k2, .bool n2, .slice A2 m2 c2, .int .i64 e2, .string t2, .slice LA2 lm2 lc2, .slice KA2 km2 kc2] 53))) := Lib.hid (hbV2.trans (hbN.mono hbV2.size))
      have HBB : Hid ((V2.alloc (.cells #[.int .i64 k1, .bool n1, .slice A1 m1 c1, .int .i64 e1, .string t1, .slice LA1 lm1 lc1, .slice KA1 km1 kc1, .int .i64 k2, .bool n2, .slice A2 m2 c2, .int .i64 e2, .string t2, .slice LA2 lm2 lc2, .slice KA2 km2 kc2] 53)).heap[V2.heap.size]? = some (.cells #[.int .i64 k1, .bool n1, .slice A1 m1 c1, .int .i64 e1, .string t1, .slice LA1 lm1 lc1, .slice KA1 km1 kc1, .int .i64 k2, .bool n2, .slice A2 m2 c2, .int .i64 e2, .string t2, .slice LA2 lm2 lc2, .slice KA2 km2 kc2] 53)) := Lib.hid (World.alloc_heap_new V2 _)
      generalize (V2.alloc (.cells #[.int .i64 k1, .bool n1, .slice A1 m1 c1, .int .i64 e1, .string t1, .slice LA1 lm1 lc1, .slice KA1 km1 kc1, .int .i64 k2, .bool n2, .slice A2 m2 c2, .int .i64 e2, .string t2, .slice LA2 lm2 lc2, .slice KA2 km2 kc2] 53)) = WW at *
      generalize V2.heap.size = bb at *
      clear hbN hbV2 hbV hbA hA1 HQ1
    case' gp2 =>
      go_simp
      have hbX : Below w5.heap.size w5 (((w5.alloc (.cells #[.int .i64 k1, .bool n1, .slice A1 m1 c1, .int .i64 e1, .string t1, .slice LA1 lm1 lc1, .slice KA1 km1 kc1] 53)).alloc (.cells #[.int .i64 k1, .bool n1, .slice A1 m1 c1, .int .i64 e1, .string t1, .slice LA1 lm1 lc1, .slice KA1 km1 kc1, .int .i64 k2, .bool n2, .slice A2 m2 c2, .int .i64 e2, .string t2, .slice LA2 lm2 lc2, .slice KA2 km2 kc2] 53)).drew) := (((Below.refl w5.heap.size w5).alloc (Nat.le_refl _) _).alloc (by simp) _).drew
      have hX1 : (((w5.alloc (.cells #[.int .i64 k1, .bool n1, .slice A1 m1 c1, .int .i64 e1, .string t1, .slice LA1 lm1 lc1, .slice KA1 km1 kc1] 53)).alloc (.cells #[.int .i64 k1, .bool n1, .slice A1 m1 c1, .int .i64 e1, .string t1, .slice LA1 lm1 lc1, .slice KA1 km1 kc1, .int .i64 k2, .bool n2, .slice A2 m2 c2, .int .i64 e2, .string t2, .slice LA2 lm2 lc2, .slice KA2 km2 kc2] 53)).drew).heap[w5.heap.size]? = some (.cells #[.int .i64 k1, .bool n1, .slice A1 m1 c1, .int .i64 e1, .string t1, .slice LA1 lm1 lc1, .slice KA1 km1 kc1] 53) := (Below.heap_alloc _ _ _ (by simp)).trans (World.alloc_heap_new w5 _)
      have hX2 : (((w5.alloc (.cells #[.int .i64 k1, .bool n1, .slice A1 m1 c1, .int .i64 e1, .string t1, .slice LA1 lm1 lc1, .slice KA1 km1 kc1] 53)).alloc (.cells #[.int .i64 k1, .bool n1, .slice A1 m1 c1, .int .i64 e1, .string t1, .slice LA1 lm1 lc1, .slice KA1 km1 kc1, .int .i64 k2, .bool n2, .slice A2 m2 c2, .int .i64 e2, .string t2, .slice LA2 lm2 lc2, .slice KA2 km2 kc2] 53)).drew).heap[w5.heap.size + 1]? = some (.cells #[.int .i64 k1, .bool n1, .slice A1 m1 c1, .int .i64 e1, .string t1, .slice LA1 lm1 lc1, .slice KA1 km1 kc1, .int .i64 k2, .bool n2, .slice A2 m2 c2, .int .i64 e2, .string t2, .slice LA2 lm2 lc2, .slice KA2 km2 kc2] 53) := by
        have := World.alloc_heap_new (w5.alloc (.cells #[.int .i64 k1, .bool n1, .slice A1 m1 c1, .int .i64 e1, .string t1, .slice LA1 lm1 lc1, .slice KA1 km1 kc1] 53)) (.cells #[.int .i64 k1, .bool n1, .slice A1 m1 c1, .int .i64 e1, .string t1, .slice LA1 lm1 lc1, .slice KA1 km1 kc1, .int .i64 k2, .bool n2, .slice A2 m2 c2, .int .i64 e2, .string t2, .slice LA2 lm2 lc2, .slice KA2 km2 kc2] 53)
        rwa [World.size_alloc] at this
      have hX3 := (Array.getElem?_eq_some_iff.1 hX1).1
      have hX4 := (Array.getElem?_eq_some_iff.1 hX2).1
      refine hK.out _ _ (HSS.out _ hbX) (fun hHeld3 => ?_)
      clear hK K hHeld2
      try simp only [Act.put, List.setIfInBounds_toArray, List.set_cons_zero, List.set_cons_succ]
      refine wpAnyH_ready (rs := [2]) (by kernel_rfl) (by simp) (AllReadyH.cons (o := ⟨_, _, _, _, _, _⟩) rfl (fun K hK => ?_) AllReadyH.nil)
      go_simp
      have hl1 := rdl1 (S := fun b => b < (((w5.alloc (.cells #[.int .i64 k1, .bool n1, .slice A1 m1 c1, .int .i64 e1, .string t1, .slice LA1 lm1 lc1, .slice KA1 km1 kc1] 53)).alloc (.cells #[.int .i64 k1, .bool n1, .slice A1 m1 c1, .int .i64 e1, .string t1, .slice LA1 lm1 lc1, .slice KA1 km1 kc1, .int .i64 k2, .bool n2, .slice A2 m2 c2, .int .i64 e2, .string t2, .slice LA2 lm2 lc2, .slice KA2 km2 kc2] 53)).drew).heap.size) ((HX.out.keep fun p hp => (hbX.cell (Nat.lt_of_lt_of_le (HS.out _ hp) HB5.out.size)).trans (HB5.out.cell (HS.out _ hp))).more fun b hb => Nat.lt_of_lt_of_le (Nat.lt_of_lt_of_le (HS.out b hb) HB5.out.size) hbX.size) hX1 (Array.getElem?_eq_some_iff.1 hX1).1
      refine (list_c (c := 1) (((w5.alloc (.cells #[.int .i64 k1, .bool n1, .slice A1 m1 c1, .int .i64 e1, .string t1, .slice LA1 lm1 lc1, .slice KA1 km1 kc1] 53)).alloc (.cells #[.int .i64 k1, .bool n1, .slice A1 m1 c1, .int .i64 e1, .string t1, .slice LA1 lm1 lc1, .slice KA1 km1 kc1, .int .i64 k2, .bool n2, .slice A2 m2 c2, .int .i64 e2, .string t2, .slice LA2 lm2 lc2, .slice KA2 km2 kc2] 53)).drew) hl1 (by omega) (Nat.le_refl _) (fun b h => h) (by have := HUX.out; simp only [underL]; omega)).mono ?_
      rintro e' V2 ⟨q1, rfl, hq1, hbV⟩
      have HQ1 : Hid (VIn V2 (Own' (((w5.alloc (.cells #[.int .i64 k1, .bool n1, .slice A1 m1 c1, .int .i64 e1, .string t1, .slice LA1 lm1 lc1, .slice KA1 km1 kc1] 53)).alloc (.cells #[.int .i64 k1, .bool n1, .slice A1 m1 c1, .int .i64 e1, .string t1, .slice LA1 lm1 lc1, .slice KA1 km1 kc1, .int .i64 k2, .bool n2, .slice A2 m2 c2, .int .i64 e2, .string t2, .slice LA2 lm2 lc2, .slice KA2 km2 kc2] 53)).drew).heap.size V2) (list1 x) q1) := Lib.hid hq1
      clear hq1 hl1
      have hbV2 := hbX.trans (hbV.mono hbX.size)
      (try dsimp only)
      refine hK.out _ _ (HSS.out _ hbV2) (fun hHeld4 => ?_)
      clear hK K
      try simp only [Act.put, List.setIfInBounds_toArray, List.set_cons_zero, List.set_cons_succ]
      obtain ⟨SQ1, HQ1b, HSQ1⟩ : ∃ SQ1, Hid (VIn (V2) SQ1 (list1 x) q1) ∧ Hid (∀ b, SQ1 b → b < (V2).heap.size) := ⟨_, HQ1, Lib.hid fun b hb => hb.2⟩
      have HBW : Hid (Below w5.heap.size w5 (V2)) := Lib.hid hbV2
      have HBB : Hid ((V2).heap[w5.heap.size + 1]? = some (.cells #[.int .i64 k1, .bool n1, .slice A1 m1 c1, .int .i64 e1, .string t1, .slice LA1 lm1 lc1, .slice KA1 km1 kc1, .int .i64 k2, .bool n2, .slice A2 m2 c2, .int .i64 e2, .string t2, .slice LA2 lm2 lc2, .slice KA2 km2 kc2] 53)) := Lib.hid ((hbV.block _ hX4).trans hX2)
      clear hbV2 hbV hbX hX1 hX2 hX3 hX4 hHeld3 HQ1 hbA hA1
      generalize (w5.heap.size + 1) = bb at *
      generalize V2 = WW at *
  case' gq =>
    go_simp
    refine hK.out _ _ (HSS.out _ hbB) (fun hHeld2 => ?_)
    clear hK K hHeld hbA hA1
    try simp only [Act.put, List.setIfInBounds_toArray, List.set_cons_zero, List.set_cons_succ]
    refine wpAnyH_ready (rs := [1]) (by kernel_rfl) (by simp) (AllReadyH.cons (o := ⟨_, _, _, _, _, _⟩) rfl (fun K hK => ?_) AllReadyH.nil)
    go_simp
    have hbX : Below w5.heap.size w5 (((w5.alloc (.cells #[.int .i64 k1, .bool n1, .slice A1 m1 c1, .int .i64 e1, .string t1, .slice LA1 lm1 lc1, .slice KA1 km1 kc1, .int .i64 k2, .bool n2, .slice A2 m2 c2, .int .i64 e2, .string t2, .slice LA2 lm2 lc2, .slice KA2 km2 kc2] 53)).alloc (.cells #[.int .i64 k1, .bool n1, .slice A1 m1 c1, .int .i64 e1, .string t1, .slice LA1 lm1 lc1, .slice KA1 km1 kc1] 53)).drew) := (((Below.refl w5.heap.size w5).alloc (Nat.le_refl _) _).alloc (by simp) _).drew
    have hX1 : (((w5.alloc (.cells #[.int .i64 k1, .bool n1, .slice A1 m1 c1, .int .i64 e1, .string t1, .slice LA1 lm1 lc1, .slice KA1 km1 kc1, .int .i64 k2, .bool n2, .slice A2 m2 c2, .int .i64 e2, .string t2, .slice LA2 lm2 lc2, .slice KA2 km2 kc2] 53)).alloc (.cells #[.int .i64 k1, .bool n1, .slice A1 m1 c1, .int .i64 e1, .string t1, .slice LA1 lm1 lc1, .slice KA1 km1 kc1] 53)).drew).heap[w5.heap.size]? = some (.cells #[.int .i64 k1, .bool n1, .slice A1 m1 c1, .int .i64 e1, .string t1, .slice LA1 lm1 lc1, .slice KA1 km1 kc1, .int .i64 k2, .bool n2, .slice A2 m2 c2, .int .i64 e2, .string t2, .slice LA2 lm2 lc2, .slice KA2 km2 kc2] 53) := (Below.heap_alloc _ _ _ (by simp)).trans (World.alloc_heap_new w5 _)
    have hX2 : (((w5.alloc (.cells #[.int .i64 k1, .bool n1, .slice A1 m1 c1, .int .i64 e1, .string t1, .slice LA1 lm1 lc1, .slice KA1 km1 kc1, .int .i64 k2, .bool n2, .slice A2 m2 c2, .int .i64 e2, .string t2, .slice LA2 lm2 lc2, .slice KA2 km2 kc2] 53)).alloc (.cells #[.int .i64 k1, .bool n1, .slice A1 m1 c1, .int .i64 e1, .string t1, .slice LA1 lm1 lc1, .slice KA1 km1 kc1] 53)).drew).heap[w5.heap.size + 1]? = some (.cells #[.int .i64 k1, .bool n1, .slice A1 m1 c1, .int .i64 e1, .string t1, .slice LA1 lm1 lc1, .slice KA1 km1 kc1] 53) := by
      have := World.alloc_heap_new (w5.alloc (.cells #[.int .i64 k1, .bool n1, .slice A1 m1 c1, .int .i64 e1, .string t1, .slice LA1 lm1 lc1, .slice KA1 km1 kc1, .int .i64 k2, .bool n2, .slice A2 m2 c2, .int .i64 e2, .string t2, .slice LA2 lm2 lc2, .slice KA2 km2 kc2] 53)) (.cells #[.int .i64 k1, .bool n1, .slice A1 m1 c1, .int .i64 e1, .string t1, .slice LA1 lm1 lc1, .slice KA1 km1 kc1] 53)
      rwa [World.size_alloc] at this
    have hX3 := (Array.getElem?_eq_some_iff.1 hX1).1
    have hX4 := (Array.getElem?_eq_some_iff.1 hX2).1
    refine hK.out _ _ (HSS.out _ hbX) (fun hHeld3 => ?_)
    clear hK K hHeld2
    try simp only [Act.put, List.setIfInBounds_toArray, List.set_cons_zero, List.set_cons_succ]
    refine wpAnyH_ready (rs := [2]) (by kernel_rfl) (by simp) (AllReadyH.cons (o := ⟨_, _, _, _, _, _⟩) rfl (fun K hK => ?_) AllReadyH.nil)
    go_simp
    have hl1 := rdl1 (S := fun b => b < (((w5.alloc (.cells #[.int .i64 k1, .bool n1, .slice A1 m1 c1, .int .i64 e1, .string t1, .slice LA1 lm1 lc1, .slice KA1 km1 kc1, .int .i64 k2, .bool n2, .slice A2 m2 c2, .int .i64 e2, .string t2, .slice LA2 lm2 lc2, .slice KA2 km2 kc2] 53)).alloc (.cells #[.int .i64 k1, .bool n1, .slice A1 m1 c1, .int .i64 e1, .string t1, .slice LA1 lm1 lc1, .slice KA1 km1 kc1] 53)).drew).heap.size) ((HX.out.keep fun p hp => (hbX.cell (Nat.lt_of_lt_of_le (HS.out _ hp) HB5.out.size)).trans (HB5.out.cell (HS.out _ hp))).more fun b hb => Nat.lt_of_lt_of_le (Nat.lt_of_lt_of_le (HS.out b hb) HB5.out.size) hbX.size) hX2 (Array.getElem?_eq_some_iff.1 hX2).1
    refine (list_c (c := 1) (((w5.alloc (.cells #[.int .i64 k1, .bool n1, .slice A1 m1 c1, .int .i64 e1, .string t1, .slice LA1 lm1 lc1, .slice KA1 km1 kc1, .int .i64 k2, .bool n2, .slice A2 m2 c2, .int .i64 e2, .string t2, .slice LA2 lm2 lc2, .slice KA2 km2 kc2] 53)).alloc (.cells #[.int .i64 k1, .bool n1, .slice A1 m1 c1, .int .i64 e1, .string t1, .slice LA1 lm1 lc1, .slice KA1 km1 kc1] 53)).drew) hl1 (by omega) (Nat.le_refl _) (fun b h => h) (by have := HUX.out; simp only [underL]; omega)).mono ?_
    rintro e' V2 ⟨q1, rfl, hq1, hbV⟩
    have HQ1 : Hid (VIn V2 (Own' (((w5.alloc (.cells #[.int .i64 k1, .bool n1, .slice A1 m1 c1, .int .i64 e1, .string t1, .slice LA1 lm1 lc1, .slice KA1 km1 kc1, .int .i64 k2, .bool n2, .slice A2 m2 c2, .int .i64 e2, .string t2, .slice LA2 lm2 lc2, .slice KA2 km2 kc2] 53)).alloc (.cells #[.int .i64 k1, .bool n1, .slice A1 m1 c1, .int .i64 e1, .string t1, .slice LA1 lm1 lc1, .slice KA1 km1 kc1] 53)).drew).heap.size V2) (list1 x) q1) := Lib.hid hq1
    clear hq1 hl1
    have hbV2 := hbX.trans (hbV.mono hbX.size)
    (try dsimp only)
    refine hK.out _ _ (HSS.out _ hbV2) (fun hHeld4 => ?_)
    clear hK K
    try simp only [Act.put, List.setIfInBounds_toArray, List.set_cons_zero, List.set_cons_succ]
    obtain ⟨SQ1, HQ1b, HSQ1⟩ : ∃ SQ1, Hid (VIn (V2) SQ1 (list1 x) q1) ∧ Hid (∀ b, SQ1 b → b < (V2).heap.size) := ⟨_, HQ1, Lib.hid fun b hb => hb.2⟩
    have HBW : Hid (Below w5.heap.size w5 (V2)) := Lib.hid hbV2
    have HBB : Hid ((V2).heap[w5.heap.size]? = some (.cells #[.int .i64 k1, .bool n1, .slice A1 m1 c1, .int .i64 e1, .string t1, .slice LA1 lm1 lc1, .slice KA1 km1 kc1, .int .i64 k2, .bool n2, .slice A2 m2 c2, .int .i64 e2, .string t2, .slice LA2 lm2 lc2, .slice KA2 km2 kc2] 53)) := Lib.hid ((hbV.block _ hX3).trans hX1)
    clear hbV2 hbV hbX hX1 hX2 hX3 hX4 hHeld3 HQ1 hbB hB1
    generalize V2 = WW at *
  all_goals
    have hBX : ∀ q : Addr, S q.block → WW.cell? q = w.cell? q := fun q hq => (HBW.out.cell (Nat.lt_of_lt_of_le (HS.out _ hq) HB5.out.size)).trans (HB5.out.cell (HS.out _ hq))
    have hSW : ∀ b, S b → b < WW.heap.size := fun b hb => Nat.lt_of_lt_of_le (Nat.lt_of_lt_of_le (HS.out b hb) HB5.out.size) HBW.out.size
    have hl2 := rdl2 (S := fun b => b < WW.heap.size) ((HX.out.keep hBX).more hSW) ((HY.out.keep hBX).more hSW) HBB.out (Array.getElem?_eq_some_iff.1 HBB.out).1
    refine wpAnyH_ready (rs := [6]) (by kernel_rfl) (by simp) (AllReadyH.cons (o := ⟨_, _, _, _, _, _⟩) rfl (fun K hK => ?_) AllReadyH.nil)
    go_simp
    refine (list_c (c := 2) WW hl2 (by omega) (Nat.le_refl _) (fun b h => h) (by have := HUX.out; have := HUY.out; simp only [underL]; omega)).mono ?_
    rintro e' W4 ⟨q2, rfl, hq2, hbW4⟩
    have HQ2 : Hid (VIn W4 (Own' WW.heap.size W4) (list2 x y) q2) := Lib.hid hq2
    clear hq2 hl2 hBX hSW
    have hb54 := HBW.out.trans (hbW4.mono HBW.out.size)
    (try dsimp only)
    refine hK.out _ _ (HSS.out _ hb54) (fun hHeld6 => ?_)
    clear hK K
    try simp only [Act.put, List.setIfInBounds_toArray, List.set_cons_zero, List.set_cons_succ]
    refine wpAnyH_ready (rs := [7]) (by kernel_rfl) (by simp) (AllReadyH.cons (o := ⟨_, _, _, _, _, _⟩) rfl (fun K hK => ?_) AllReadyH.nil)
    have HC := VCompare_c (S := fun b => b < W4.heap.size) W4 (HT5.out.below hb54) ((HQ1b.out.keep fun p hp => hbW4.cell (HSQ1.out _ hp)).more fun b hb => Nat.lt_of_lt_of_le (HSQ1.out b hb) hbW4.size) (HQ2.out.more fun b hb => hb.2) (fun b h => h)
    obtain ⟨G, hG⟩ : ∃ G, cmp2 (list1 x) (list2 x y) = G := ⟨_, rfl⟩
    obtain ⟨H, hH⟩ : ∃ H, err2 (list1 x) (list2 x y) = H := ⟨_, rfl⟩
    have HGH : Hid (H = 0 → G = -1) := Lib.hid fun h => by rw [← hG, cmp2_ok (hH.trans h), list_ord]
    rw [hG, hH] at HC
    clear hG hH
    go_simp
    refine HC.mono ?_
    rintro e' W6 ⟨rfl, hbW6⟩
    clear HC
    have hb56 := hb54.trans (hbW6.mono hb54.size)
    (try dsimp only)
    refine hK.out _ _ (HSS.out _ hb56) (fun hHeld7 => ?_)
    clear hK K
    try simp only [Act.put, List.setIfInBounds_toArray, List.set_cons_zero, List.set_cons_succ]
    refine wpAnyH_take (i := 8) (oi := ⟨_, _, _, _, _, _⟩) (v := ?_) rfl (by kernel_rfl) (by kernel_rfl) (by kernel_rfl) (fun _ _ _ h => h) (Or.inl ⟨by rfl, ?_⟩) (by assumption) ?_
    rotate_left
    · intro w hSw
      (try dsimp only at hSw)
      go_split_ands
      go_simp
      try with_reducible rfl
    try simp only [Act.put, List.setIfInBounds_toArray, List.set_cons_zero, List.set_cons_succ]
    refine wpAnyH_take (i := 9) (oi := ⟨_, _, _, _, _, _⟩) (v := ?_) rfl (by kernel_rfl) (by kernel_rfl) (by kernel_rfl) (fun _ _ _ h => h) (Or.inl ⟨by rfl, ?_⟩) (by assumption) ?_
    rotate_left
    · intro w hSw
      (try dsimp only at hSw)
      go_split_ands
      go_simp
      try with_reducible rfl
    try simp only [Act.put, List.setIfInBounds_toArray, List.set_cons_zero, List.set_cons_succ]
    refine wpAnyH_take (i := 10) (oi := ⟨_, _, _, _, _, _⟩) (v := ?_) rfl (by kernel_rfl) (by kernel_rfl) (by kernel_rfl) (fun _ _ _ h => h) (Or.inl ⟨by rfl, ?_⟩) (by assumption) ?_
    rotate_left
    · intro w hSw
      (try dsimp only at hSw)
      go_split_ands
      go_simp
      try with_reducible rfl
    try simp only [Act.put, List.setIfInBounds_toArray, List.set_cons_zero, List.set_cons_succ]
    refine wpAnyH_take (i := 11) (oi := ⟨_, _, _, _, _, _⟩) (v := ?_) rfl (by kernel_rfl) (by kernel_rfl) (by kernel_rfl) (fun _ _ _ h => h) (Or.inl ⟨by rfl, ?_⟩) (by assumption) ?_
    rotate_left
    · intro w hSw
      (try dsimp only at hSw)
      go_split_ands
      go_simp
      try with_reducible rfl
    try simp only [Act.put, List.setIfInBounds_toArray, List.set_cons_zero, List.set_cons_succ]
    refine wpAnyH_take (i := 12) (oi := ⟨_, _, _, _, _, _⟩) (v := ?_) rfl (by kernel_rfl) (by kernel_rfl) (by kernel_rfl) (fun _ _ _ h => h) (Or.inl ⟨by rfl, ?_⟩) (by assumption) ?_
    rotate_left
    · intro w hSw
      (try dsimp only at hSw)
      go_split_ands
      go_simp
      try with_reducible rfl
    try simp only [Act.put, List.setIfInBounds_toArray, List.set_cons_zero, List.set_cons_succ]
    refine wpAnyH_done (by kernel_rfl) ?_ _
    have HBE := Lib.hid (HB5.out.trans (hb56.mono HB5.out.size))
    obtain ⟨x0, x1, x2, x3, x4, x5, x6⟩ := box7_of ((hb56.block _ hz15).trans M15.out)
    obtain ⟨y0, y1, y2, y3, y4, y5, y6⟩ := box7_of ((hb56.block _ hz25).trans M25.out)
    clear hHeld6 hHeld7 hb54 hb56 hbW4 hbW6 HSS HQ1b HSQ1 HQ2 HBB HBW x1 x2 x3 x4 x5 x6 y1 y2 y3 y4 y5 y6
    by_cases hE : E3 = 0
    · have g3 : err2 x y = 0 := HE3.out.trans hE
      have hX : X3 = ordV x y := HX3.out.symm.trans (cmp2_ok g3)
      have hD := HORD.out
      have hkd : ¬ k1 = k2 → decide (X3 < 0) = decide (k1 < k2) := fun h => by
        rw [hX, ← HKX.out, ← HKY.out]
        exact ordV_kind (by rw [HKX.out, HKY.out]; exact h)
      have HKD := Lib.hid hkd
      subst hE
      clear hX g3 hkd
      by_cases hk : k1 = k2
      · subst hk
        go_upto_region 10 with (first | (go_at_call 35; refine (lnum_c _ _).mono ?_; rintro e' w' ⟨rfl, rfl⟩))
        by_cases hH : H = 0
        · obtain rfl : G = -1 := HGH.out hH
          subst hH
          go_wp2_with (first | (go_at_call 35; refine (lnum_c _ _).mono ?_; rintro e' w' ⟨rfl, rfl⟩))
          go_ret
          exact ⟨rfl, HBE.out⟩
        · have hneh : ¬ (H : Int) = 0 := by omega
          have hneh2 : ((H : Int) == 0) = false := by rw [beq_eq_false_iff_ne]; exact hneh
          go_wp2_with (first | (go_at_call 35; refine (lnum_c _ _).mono ?_; rintro e' w' ⟨rfl, rfl⟩))
          go_ret
          exact ⟨rfl, HBE.out⟩
      · have hk2 : (k1 == k2) = false := by rw [beq_eq_false_iff_ne]; exact hk
        have hX := HKD.out hk
        go_upto_region 10 with (first | (go_at_call 35; refine (lnum_c _ _).mono ?_; rintro e' w' ⟨rfl, rfl⟩))
        by_cases hH : H = 0
        · obtain rfl : G = -1 := HGH.out hH
          subst hH
          go_wp2_with (first | (go_at_call 35; refine (lnum_c _ _).mono ?_; rintro e' w' ⟨rfl, rfl⟩))
          go_ret
          exact ⟨rfl, HBE.out⟩
        · have hneh : ¬ (H : Int) = 0 := by omega
          have hneh2 : ((H : Int) == 0) = false := by rw [beq_eq_false_iff_ne]; exact hneh
          go_wp2_with (first | (go_at_call 35; refine (lnum_c _ _).mono ?_; rintro e' w' ⟨rfl, rfl⟩))
          go_ret
          exact ⟨rfl, HBE.out⟩
    · have q3 : X3 = 0 := HX3.out.symm.trans (cmp2_err fun h => hE (HE3.out.symm.trans h))
      subst q3
      have hne : ¬ (E3 : Int) = 0 := by omega
      have hne2 : ((E3 : Int) == 0) = false := by rw [beq_eq_false_iff_ne]; exact hne
      go_wp2_with (first | (go_at_call 35; refine (lnum_c _ _).mono ?_; rintro e' w' ⟨rfl, rfl⟩))
      go_ret
      exact ⟨rfl, HBE.out⟩
end Go.Proofs.YtklpfgjnlheikaaGreatDoor
