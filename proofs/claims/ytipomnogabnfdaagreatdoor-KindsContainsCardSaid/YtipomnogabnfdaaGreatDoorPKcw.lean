/-
  The walk of the law KindsContains, given strings.Contains.
-/
import Derived.Test.YtipomnogabnfdaaGreatDoorPKcl
import Derived.Test.YtipomnogabnfdaaGreatDoorPKal
set_option linter.unusedVariables false
set_option linter.unusedSimpArgs false
namespace Go.Proofs.YtipomnogabnfdaaGreatDoor
open Go.RowKit Go.Lib

set_option maxRecDepth 4000000 in
set_option maxHeartbeats 16000000 in
theorem kindsContains_c {S1 S2 S3 : Nat → Prop} {x y z : VT} {cs ds es : List Value} (w : World) (hTX : TextsK w.heap.size w) (hT : Tabs w) (hx : VIn w S1 x cs) (hy : VIn w S2 y ds) (hz : VIn w S3 z es) (hS1 : ∀ b, S1 b → b < w.heap.size) (hS2 : ∀ b, S2 b → b < w.heap.size) (hS3 : ∀ b, S3 b → b < w.heap.size) :
    Calls Tryz.prog 3 #[.agg cs.toArray, .agg ds.toArray, .agg es.toArray] w fun e w' => e = .returned (.bool true) ∧ Below w.heap.size w w' := by
  obtain ⟨k1, neg1, A1, n1, c1, ex1, t1, LA1, ln1, lc1, KA1, kn1, kc1, rfl, -, -⟩ := hx.seven
  obtain ⟨k2, neg2, A2, n2, c2, ex2, t2, LA2, ln2, lc2, KA2, kn2, kc2, rfl, -, -⟩ := hy.seven
  obtain ⟨k3, neg3, A3, n3, c3, ex3, t3, LA3, ln3, lc3, KA3, kn3, kc3, rfl, -, -⟩ := hz.seven
  obtain ⟨vb, hvb⟩ : ∃ b, w.heap.size = b := ⟨_, rfl⟩
  obtain ⟨w3, hw3⟩ : ∃ w3, (((w.alloc (.cells #[.int .i64 k1, .bool neg1, .slice A1 n1 c1, .int .i64 ex1, .string t1, .slice LA1 ln1 lc1, .slice KA1 kn1 kc1] 28)).alloc (.cells #[.int .i64 k2, .bool neg2, .slice A2 n2 c2, .int .i64 ex2, .string t2, .slice LA2 ln2 lc2, .slice KA2 kn2 kc2] 28)).alloc (.cells #[.int .i64 k3, .bool neg3, .slice A3 n3 c3, .int .i64 ex3, .string t3, .slice LA3 ln3 lc3, .slice KA3 kn3 kc3] 28)) = w3 := ⟨_, rfl⟩
  have hb3 : Below vb w w3 := by
    rw [← hw3]
    exact (((Below.refl vb w).alloc (by omega) _).alloc (by rw [World.size_alloc]; omega) _).alloc (by rw [World.size_alloc, World.size_alloc]; omega) _
  have hs3 : w3.heap.size = vb + 3 := by rw [← hw3, World.size_alloc, World.size_alloc, World.size_alloc]; omega
  have h0 : w3.heap[vb]? = some (.cells #[.int .i64 k1, .bool neg1, .slice A1 n1 c1, .int .i64 ex1, .string t1, .slice LA1 ln1 lc1, .slice KA1 kn1 kc1] 28) := by
    rw [← hw3, Below.heap_alloc _ _ _ (by simp; omega), Below.heap_alloc _ _ _ (by simp; omega), ← hvb]; exact World.alloc_heap_new _ _
  have h1 : w3.heap[vb + 1]? = some (.cells #[.int .i64 k2, .bool neg2, .slice A2 n2 c2, .int .i64 ex2, .string t2, .slice LA2 ln2 lc2, .slice KA2 kn2 kc2] 28) := by
    rw [← hw3, Below.heap_alloc _ _ _ (by simp; omega)]
    have := World.alloc_heap_new (w.alloc (.cells #[.int .i64 k1, .bool neg1, .slice A1 n1 c1, .int .i64 ex1, .string t1, .slice LA1 ln1 lc1, .slice KA1 kn1 kc1] 28)) (.cells #[.int .i64 k2, .bool neg2, .slice A2 n2 c2, .int .i64 ex2, .string t2, .slice LA2 ln2 lc2, .slice KA2 kn2 kc2] 28)
    rwa [World.size_alloc, hvb] at this
  have h2 : w3.heap[vb + 2]? = some (.cells #[.int .i64 k3, .bool neg3, .slice A3 n3 c3, .int .i64 ex3, .string t3, .slice LA3 ln3 lc3, .slice KA3 kn3 kc3] 28) := by
    rw [← hw3]
    have := World.alloc_heap_new ((w.alloc (.cells #[.int .i64 k1, .bool neg1, .slice A1 n1 c1, .int .i64 ex1, .string t1, .slice LA1 ln1 lc1, .slice KA1 kn1 kc1] 28)).alloc (.cells #[.int .i64 k2, .bool neg2, .slice A2 n2 c2, .int .i64 ex2, .string t2, .slice LA2 ln2 lc2, .slice KA2 kn2 kc2] 28)) (.cells #[.int .i64 k3, .bool neg3, .slice A3 n3 c3, .int .i64 ex3, .string t3, .slice LA3 ln3 lc3, .slice KA3 kn3 kc3] 28)
    rwa [World.size_alloc, World.size_alloc, hvb] at this
  rw [hvb] at hTX
  have hx3 := fun (W : World) (hW : Below (vb + 3) w3 W) => hx.keep (w' := W) fun p hp => (hb3.trans (hW.mono (by omega))).cell (p := p) (by have := hS1 _ hp; omega)
  have hy3 := fun (W : World) (hW : Below (vb + 3) w3 W) => hy.keep (w' := W) fun p hp => (hb3.trans (hW.mono (by omega))).cell (p := p) (by have := hS2 _ hp; omega)
  have hz3 := fun (W : World) (hW : Below (vb + 3) w3 W) => hz.keep (w' := W) fun p hp => (hb3.trans (hW.mono (by omega))).cell (p := p) (by have := hS3 _ hp; omega)
  have hT3 := fun (W : World) (hW : Below (vb + 3) w3 W) => hT.below (hvb ▸ (hb3.trans (hW.mono (by omega))))
  obtain ⟨N, hN⟩ : ∃ N, SizeOf.sizeOf x + SizeOf.sizeOf y + 1 = N := ⟨_, rfl⟩
  have hc1 := fun (W : World) (hW : Below (vb + 3) w3 W) (hs : vb + 3 ≤ W.heap.size) => ctContains_c hTX (N := N) W (hT3 W hW) (by omega) (hx3 W hW) (hx3 W hW) (fun b hb => by have := hS1 b hb; omega) (fun b hb => by have := hS1 b hb; omega) (hb3.trans (hW.mono (by omega))) (by omega)
  obtain ⟨E1, hE1⟩ : ∃ E, ctE x x = E := ⟨_, rfl⟩
  obtain ⟨B1, hB1⟩ : ∃ E, ctB N x x = E := ⟨_, rfl⟩
  simp only [hE1, hB1] at hc1
  have HC1 := Lib.hid hc1
  have hc2 := fun (W : World) (hW : Below (vb + 3) w3 W) (hs : vb + 3 ≤ W.heap.size) => ctContains_c hTX (N := N) W (hT3 W hW) (by omega) (hx3 W hW) (hy3 W hW) (fun b hb => by have := hS1 b hb; omega) (fun b hb => by have := hS2 b hb; omega) (hb3.trans (hW.mono (by omega))) (by omega)
  obtain ⟨E2, hE2⟩ : ∃ E, ctE x y = E := ⟨_, rfl⟩
  obtain ⟨B2, hB2⟩ : ∃ E, ctB N x y = E := ⟨_, rfl⟩
  simp only [hE2, hB2] at hc2
  have HC2 := Lib.hid hc2
  have hc3 := fun (W : World) (hW : Below (vb + 3) w3 W) (hs : vb + 3 ≤ W.heap.size) => ctContains_c hTX (N := N) W (hT3 W hW) (by omega) (hy3 W hW) (hz3 W hW) (fun b hb => by have := hS2 b hb; omega) (fun b hb => by have := hS3 b hb; omega) (hb3.trans (hW.mono (by omega))) (by omega)
  obtain ⟨E3, hE3⟩ : ∃ E, ctE y z = E := ⟨_, rfl⟩
  obtain ⟨B3, hB3⟩ : ∃ E, ctB N y z = E := ⟨_, rfl⟩
  simp only [hE3, hB3] at hc3
  have HC3 := Lib.hid hc3
  have hc4 := fun (W : World) (hW : Below (vb + 3) w3 W) (hs : vb + 3 ≤ W.heap.size) => ctContains_c hTX (N := N) W (hT3 W hW) (by omega) (hx3 W hW) (hz3 W hW) (fun b hb => by have := hS1 b hb; omega) (fun b hb => by have := hS3 b hb; omega) (hb3.trans (hW.mono (by omega))) (by omega)
  obtain ⟨E4, hE4⟩ : ∃ E, ctE x z = E := ⟨_, rfl⟩
  obtain ⟨B4, hB4⟩ : ∃ E, ctB N x z = E := ⟨_, rfl⟩
  simp only [hE4, hB4] at hc4
  have HC4 := Lib.hid hc4
  have HT3 := Lib.hid hT3
  have HW3 := Lib.hid hw3
  have HB3 := Lib.hid hb3
  have H0 := Lib.hid h0
  have H1 := Lib.hid h1
  have H2 := Lib.hid h2
  have HS3 := Lib.hid hs3
  have bad1 : E1 ≠ 0 → B1 = false ∧ B2 = false := fun h => ⟨by rw [← hB1]; exact ctB_bad (by rw [hE1]; exact h), by rw [← hB2]; exact ctB_bad (ctE_self (by rw [hE1]; exact h))⟩
  have good1 : E1 = 0 → B1 = true := fun h => by rw [← hB1]; exact ctB_self (by rw [hE1]; exact h) (by omega)
  have good4 : E2 = 0 → E3 = 0 → E4 = 0 ∧ (B2 = true → B3 = true → B4 = true) := fun h2 h3 => ⟨by rw [← hE4]; exact ctE_trans (hE2.trans h2) (hE3.trans h3), fun g2 g3 => by rw [← hB4]; exact ctB_trans (hE2.trans h2) (hE3.trans h3) (hB2.trans g2) (hB3.trans g3)⟩
  have HBAD := Lib.hid bad1
  have HG1 := Lib.hid good1
  have HG4 := Lib.hid good4
  rw [hvb]
  clear bad1 good1 good4 hc1 hc2 hc3 hc4 hE1 hE2 hE3 hE4 hB1 hB2 hB3 hB4 hN hx3 hy3 hz3 hT3 hw3 hb3 h0 h1 h2 hx hy hz hT hTX hS1 hS2 hS3 hs3
  go_enter Tryz.func3, Tryz.ntmps3
  go_upto_region 1 with fail
  try rw [hvb]
  clear hvb
  rw [HW3.out]
  go_wp2_with fail
  refine (alive12_c w3 (HT3.out w3 (Below.refl _ _))).mono ?_
  rintro e9 v0 ⟨rfl, hb⟩
  rw [HS3.out] at hb
  have HV0 := Lib.hid hb
  have hv0 : vb + 3 ≤ v0.heap.size := by have := hb.size; have h2 := HS3.out; omega
  clear hb
  have x0 := (HV0.out.block vb (by omega)).trans H0.out
  have x1 := (HV0.out.block (vb + 1) (by omega)).trans H1.out
  have x2 := (HV0.out.block (vb + 2) (by omega)).trans H2.out
  obtain ⟨p0, p1, p2, p3, p4, p5, p6⟩ := box7_of x0
  obtain ⟨q0, q1, q2, q3, q4, q5, q6⟩ := box7_of x1
  obtain ⟨r0, r1, r2, r3, r4, r5, r6⟩ := box7_of x2
  clear x0 x1 x2
  go_wp2_with fail
  refine (HC1.out v0 HV0.out hv0).mono ?_
  rintro e9 v1 ⟨rfl, hb⟩
  have HV1 := Lib.hid (HV0.out.trans (hb.mono hv0))
  have hv1 : vb + 3 ≤ v1.heap.size := by have := hb.size; omega
  clear hb p0 p1 p2 p3 p4 p5 p6 q0 q1 q2 q3 q4 q5 q6 r0 r1 r2 r3 r4 r5 r6
  have x0 := (HV1.out.block vb (by omega)).trans H0.out
  have x1 := (HV1.out.block (vb + 1) (by omega)).trans H1.out
  have x2 := (HV1.out.block (vb + 2) (by omega)).trans H2.out
  obtain ⟨p0, p1, p2, p3, p4, p5, p6⟩ := box7_of x0
  obtain ⟨q0, q1, q2, q3, q4, q5, q6⟩ := box7_of x1
  obtain ⟨r0, r1, r2, r3, r4, r5, r6⟩ := box7_of x2
  clear x0 x1 x2
  go_wp2_with fail
  refine (HC2.out v1 HV1.out hv1).mono ?_
  rintro e9 v2 ⟨rfl, hb⟩
  have HV2 := Lib.hid (HV1.out.trans (hb.mono hv1))
  have hv2 : vb + 3 ≤ v2.heap.size := by have := hb.size; omega
  clear hb p0 p1 p2 p3 p4 p5 p6 q0 q1 q2 q3 q4 q5 q6 r0 r1 r2 r3 r4 r5 r6
  have x0 := (HV2.out.block vb (by omega)).trans H0.out
  have x1 := (HV2.out.block (vb + 1) (by omega)).trans H1.out
  have x2 := (HV2.out.block (vb + 2) (by omega)).trans H2.out
  obtain ⟨p0, p1, p2, p3, p4, p5, p6⟩ := box7_of x0
  obtain ⟨q0, q1, q2, q3, q4, q5, q6⟩ := box7_of x1
  obtain ⟨r0, r1, r2, r3, r4, r5, r6⟩ := box7_of x2
  clear x0 x1 x2
  go_wp2_with fail
  refine (HC3.out v2 HV2.out hv2).mono ?_
  rintro e9 v3 ⟨rfl, hb⟩
  have HV3 := Lib.hid (HV2.out.trans (hb.mono hv2))
  have hv3 : vb + 3 ≤ v3.heap.size := by have := hb.size; omega
  clear hb p0 p1 p2 p3 p4 p5 p6 q0 q1 q2 q3 q4 q5 q6 r0 r1 r2 r3 r4 r5 r6
  have x0 := (HV3.out.block vb (by omega)).trans H0.out
  have x1 := (HV3.out.block (vb + 1) (by omega)).trans H1.out
  have x2 := (HV3.out.block (vb + 2) (by omega)).trans H2.out
  obtain ⟨p0, p1, p2, p3, p4, p5, p6⟩ := box7_of x0
  obtain ⟨q0, q1, q2, q3, q4, q5, q6⟩ := box7_of x1
  obtain ⟨r0, r1, r2, r3, r4, r5, r6⟩ := box7_of x2
  clear x0 x1 x2
  go_wp2_with fail
  refine (HC4.out v3 HV3.out hv3).mono ?_
  rintro e9 v4 ⟨rfl, hb⟩
  have HV4 := Lib.hid (HV3.out.trans (hb.mono hv3))
  have hv4 : vb + 3 ≤ v4.heap.size := by have := hb.size; omega
  clear hb p0 p1 p2 p3 p4 p5 p6 q0 q1 q2 q3 q4 q5 q6 r0 r1 r2 r3 r4 r5 r6
  by_cases e1 : E1 = 0
  case neg =>
    have j1 : ((E1 : Int) == 0) = false := by rw [beq_eq_false_iff_ne]; omega
    obtain ⟨g1, g2⟩ := HBAD.out e1
    subst g1 g2
    go_wp2_with (go_at_call 7; refine (lnum12_c _ _).mono ?_; rintro e w' ⟨rfl, rfl⟩)
    go_ret
    exact ⟨rfl, HB3.out.trans (HV4.out.mono (by omega))⟩
  have g1 := HG1.out e1
  subst e1 g1
  by_cases e2 : E2 = 0
  case neg =>
    have j1 : ((E2 : Int) == 0) = false := by rw [beq_eq_false_iff_ne]; omega
    go_wp2_with (go_at_call 7; refine (lnum12_c _ _).mono ?_; rintro e w' ⟨rfl, rfl⟩)
    go_ret
    exact ⟨rfl, HB3.out.trans (HV4.out.mono (by omega))⟩
  by_cases e3 : E3 = 0
  case neg =>
    subst e2
    have j1 : ((E3 : Int) == 0) = false := by rw [beq_eq_false_iff_ne]; omega
    go_wp2_with (go_at_call 7; refine (lnum12_c _ _).mono ?_; rintro e w' ⟨rfl, rfl⟩)
    go_ret
    exact ⟨rfl, HB3.out.trans (HV4.out.mono (by omega))⟩
  obtain ⟨g4, g5⟩ := HG4.out e2 e3
  subst e2 e3 g4
  cases B2 with
  | false =>
    go_wp2_with (go_at_call 7; refine (lnum12_c _ _).mono ?_; rintro e w' ⟨rfl, rfl⟩)
    go_ret
    exact ⟨rfl, HB3.out.trans (HV4.out.mono (by omega))⟩
  | true =>
    cases B3 with
    | false =>
      go_wp2_with (go_at_call 7; refine (lnum12_c _ _).mono ?_; rintro e w' ⟨rfl, rfl⟩)
      go_ret
      exact ⟨rfl, HB3.out.trans (HV4.out.mono (by omega))⟩
    | true =>
      have g6 := g5 rfl rfl
      subst g6
      go_wp2_with (go_at_call 7; refine (lnum12_c _ _).mono ?_; rintro e w' ⟨rfl, rfl⟩)
      go_ret
      exact ⟨rfl, HB3.out.trans (HV4.out.mono (by omega))⟩
end Go.Proofs.YtipomnogabnfdaaGreatDoor
