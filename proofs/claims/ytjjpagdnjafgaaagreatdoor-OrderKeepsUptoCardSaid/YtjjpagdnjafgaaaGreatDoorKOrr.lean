/-
  Contract of the reference's Order: how two values that may be stand.
-/
import Derived.Test.YtjjpagdnjafgaaaGreatDoorKOcm
import Derived.Test.YtjjpagdnjafgaaaGreatDoorKDrsm
import Derived.Deep.RegionHeld3
import Derived.Deep.QuietTactic
import Derived.BigQuiet
set_option linter.unusedVariables false
set_option linter.unusedSimpArgs false
namespace Go.Proofs.YtjjpagdnjafgaaaGreatDoor
open Go.RowKit Go.Lib

theorem ord_ref {k : Int} {n n' : Bool} {x x' : List Nat} {e e' : Int} {t t' : ByteArray} {l l' : List VT} {ks ks' : List ByteArray} (h : fine (.mk k n x e t l ks)) (h' : fine (.mk k n' x' e' t' l' ks')) (h3 : k ≠ 3) :
    ordV (.mk k n x e t l ks) (.mk k n' x' e' t' l' ks') = if cmpB t t' = 0 then (if lexC cmpB ks ks' = 0 then ordL l l' else lexC cmpB ks ks') else cmpB t t' := by
  obtain ⟨-, r2, r3⟩ := fine_rest h
  obtain ⟨-, s2, s3⟩ := fine_rest h'
  rw [ordV, if_pos rfl, if_neg h3]
  by_cases h4 : k = 4
  · obtain ⟨rfl, rfl⟩ := r3 (.inr h4)
    obtain ⟨rfl, rfl⟩ := s3 (.inr h4)
    rw [if_pos h4]
    by_cases hz : cmpB t t' = 0
    · rw [if_pos hz]; simp [lexC, ordL, hz]
    · rw [if_neg hz]
  · rw [if_neg h4, r2 h4, s2 h4, cmpB_self, if_pos rfl]

/-- The reference's Order of a value that may be, and another one. -/
def ROrds (x : VT) : Prop := ∀ (y : VT) (S : Nat → Prop) (cs ds : List Value) (w : World), fine x → fine y → VIn w S x cs → VIn w S y ds → (∀ b, S b → b < w.heap.size) →
  Calls Tryz.prog 45 #[.agg cs.toArray, .agg ds.toArray] w fun e w' => e = .returned (.int .i64 (ordV x y)) ∧ Below w.heap.size w w'

set_option maxRecDepth 100000 in
set_option maxHeartbeats 4000000 in
theorem rorder_n : ∀ (N : Nat) (x : VT), SizeOf.sizeOf x < N → ROrds x := by
  intro N
  induction N with
  | zero => intro x h; exact absurd h (Nat.not_lt_zero _)
  | succ N ih =>
    intro x hN y S cs ds w hfx hfy hvx hvy hS
    obtain ⟨k1, n1, u1, e1, t1, l1, ks1⟩ := x
    obtain ⟨k2, n2, u2, e2, t2, l2, ks2⟩ := y
    obtain ⟨A1, m1, c1, LA1, lm1, lc1, KA1, km1, kc1, rfl, a1, a2, a3, a4, a5, a6, a7⟩ := hvx.parts
    obtain ⟨A2, m2, c2, LA2, lm2, lc2, KA2, km2, kc2, rfl, b1, b2, b3, b4, b5, b6, b7⟩ := hvy.parts
    have hli : ∀ z ∈ l1, ROrds z ∧ fine z := fun z hz => ⟨ih z (by have := size_list (k := k1) (n := n1) (x := u1) (e := e1) (t := t1) (ks := ks1) hz; omega), fine_list hfx hz⟩
    have hlj : ∀ z ∈ l2, fine z := fun z hz => fine_list hfy hz
    obtain ⟨R, hR⟩ : ∃ R, ordV (.mk k1 n1 u1 e1 t1 l1 ks1) (.mk k2 n2 u2 e2 t2 l2 ks2) = R := ⟨_, rfl⟩
    rw [hR]
    have HF1 := Lib.hid hfx
    have HF2 := Lib.hid hfy
    have HLI := Lib.hid hli
    have HLJ := Lib.hid hlj
    have HHS := Lib.hid hS
    have HR := Lib.hid hR
    clear ih hN hfx hfy hvx hvy hli hlj hS hR
    have hW : Below w.heap.size w ((w.alloc (.cells #[.int .i64 k1, .bool n1, .slice A1 m1 c1, .int .i64 e1, .string t1, .slice LA1 lm1 lc1, .slice KA1 km1 kc1] 53)).alloc (.cells #[.int .i64 k2, .bool n2, .slice A2 m2 c2, .int .i64 e2, .string t2, .slice LA2 lm2 lc2, .slice KA2 km2 kc2] 53)) := ((Below.refl _ w).alloc (Nat.le_refl _) _).alloc (by simp) _
    have hm1 : ((w.alloc (.cells #[.int .i64 k1, .bool n1, .slice A1 m1 c1, .int .i64 e1, .string t1, .slice LA1 lm1 lc1, .slice KA1 km1 kc1] 53)).alloc (.cells #[.int .i64 k2, .bool n2, .slice A2 m2 c2, .int .i64 e2, .string t2, .slice LA2 lm2 lc2, .slice KA2 km2 kc2] 53)).heap[w.heap.size]? = some (.cells #[.int .i64 k1, .bool n1, .slice A1 m1 c1, .int .i64 e1, .string t1, .slice LA1 lm1 lc1, .slice KA1 km1 kc1] 53) := (Below.heap_alloc _ _ _ (by simp)).trans (World.alloc_heap_new w _)
    have hm2 : ((w.alloc (.cells #[.int .i64 k1, .bool n1, .slice A1 m1 c1, .int .i64 e1, .string t1, .slice LA1 lm1 lc1, .slice KA1 km1 kc1] 53)).alloc (.cells #[.int .i64 k2, .bool n2, .slice A2 m2 c2, .int .i64 e2, .string t2, .slice LA2 lm2 lc2, .slice KA2 km2 kc2] 53)).heap[w.heap.size + 1]? = some (.cells #[.int .i64 k2, .bool n2, .slice A2 m2 c2, .int .i64 e2, .string t2, .slice LA2 lm2 lc2, .slice KA2 km2 kc2] 53) := by
      have := World.alloc_heap_new (w.alloc (.cells #[.int .i64 k1, .bool n1, .slice A1 m1 c1, .int .i64 e1, .string t1, .slice LA1 lm1 lc1, .slice KA1 km1 kc1] 53)) (.cells #[.int .i64 k2, .bool n2, .slice A2 m2 c2, .int .i64 e2, .string t2, .slice LA2 lm2 lc2, .slice KA2 km2 kc2] 53)
      rwa [World.size_alloc] at this
    have hz : ((w.alloc (.cells #[.int .i64 k1, .bool n1, .slice A1 m1 c1, .int .i64 e1, .string t1, .slice LA1 lm1 lc1, .slice KA1 km1 kc1] 53)).alloc (.cells #[.int .i64 k2, .bool n2, .slice A2 m2 c2, .int .i64 e2, .string t2, .slice LA2 lm2 lc2, .slice KA2 km2 kc2] 53)).heap.size = w.heap.size + 2 := by simp
    go_enter Tryz.func45, Tryz.ntmps45
    go_upto_region 1 with fail
    generalize ((w.alloc (.cells #[.int .i64 k1, .bool n1, .slice A1 m1 c1, .int .i64 e1, .string t1, .slice LA1 lm1 lc1, .slice KA1 km1 kc1] 53)).alloc (.cells #[.int .i64 k2, .bool n2, .slice A2 m2 c2, .int .i64 e2, .string t2, .slice LA2 lm2 lc2, .slice KA2 km2 kc2] 53)) = W1 at *
    obtain ⟨x0, x1, x2, x3, x4, x5, x6⟩ := box7_of hm1
    obtain ⟨y0, y1, y2, y3, y4, y5, y6⟩ := box7_of hm2
    have HM1 := Lib.hid hm1
    have HM2 := Lib.hid hm2
    have hz1 : w.heap.size + 2 ≤ W1.heap.size := by omega
    clear hm1 hm2 hz
    by_cases hlt : k1 < k2
    · have HR2 : Hid (R = -1) := by
        show _ = _
        rw [← HR.out, ordV, if_neg (by omega)]; unfold cmpI; rw [if_pos hlt]
      go_wp2_with fail
      go_ret
      refine ⟨?_, hW⟩
      rw [HR2.out]; rfl
    by_cases hgt : k2 < k1
    · have HR2 : Hid (R = 1) := by
        show _ = _
        rw [← HR.out, ordV, if_neg (by omega)]; unfold cmpI; rw [if_neg (by omega), if_pos hgt]
      go_wp2_with fail
      go_ret
      refine ⟨?_, hW⟩
      rw [HR2.out]; rfl
    have hkk : k2 = k1 := by omega
    subst hkk
    clear hlt hgt
    have hirr : ¬ k2 < k2 := by omega
    by_cases h3 : k2 = 3
    · subst h3
      have HD := ROrder_c (c := c1) (d := c2) n1 n2 e1 e2 W1 (a1.below hW HHS.out) (b1.below hW HHS.out) (fun b hb => by have := HHS.out b hb; omega) (fine_okB HF1.out) (fine_okB HF2.out)
      unfold dv at HD
      have HR2 : Hid (R = cmpI (sv n1 (val u1) e1) (sv n2 (val u2) e2)) := by
        show _ = _
        rw [← HR.out, ordV, if_pos rfl, if_pos rfl]
      obtain ⟨Q, hQ⟩ : ∃ Q, cmpI (sv n1 (val u1) e1) (sv n2 (val u2) e2) = Q := ⟨_, rfl⟩
      rw [hQ] at HR2 HD
      clear hQ
      go_wp2_with fail
      refine HD.mono ?_
      rintro e' w3 ⟨rfl, hb3⟩
      have hb4 := hW.trans (hb3.mono hW.size)
      clear HD hb3 x0 x1 x2 x3 x4 x5 x6 y0 y1 y2 y3 y4 y5 y6
      go_wp2_with fail
      go_ret
      refine ⟨?_, hb4⟩
      rw [HR2.out]; rfl
    have h3b : (k2 == 3) = false := by rw [beq_eq_false_iff_ne]; exact h3
    have hro := ord_ref HF1.out HF2.out h3
    rw [HR.out] at hro
    rcases cmpB_three t1 t2 with ⟨hc, hz⟩ | ⟨hc, hz⟩ | ⟨hc, hz⟩
    · have HR2 : Hid (R = -1) := by
        show _ = _
        rw [hro, hz]; rfl
      have g1 : Go.Op.bytesLess t1.toList t2.toList = true := by rw [bytesLess_eq, decide_eq_true_eq]; exact hc
      clear hc hz hro
      go_wp2_with fail
      go_ret
      refine ⟨?_, hW⟩
      rw [HR2.out]; rfl
    · subst hc
      rw [if_pos hz] at hro
      have g1 : Go.Op.bytesLess t1.toList t1.toList = false := by rw [bytesLess_eq, decide_eq_false_iff_not]; exact List.lt_irrefl _
      obtain ⟨RK, hRK⟩ : ∃ RK, lexC cmpB ks1 ks2 = RK := ⟨_, rfl⟩
      obtain ⟨RL, hRL⟩ : ∃ RL, ordL l1 l2 = RL := ⟨_, rfl⟩
      rw [hRK, hRL] at hro
      rw [ordL_lex] at hRL
      have HRO := Lib.hid hro
      have HRK := Lib.hid hRK
      have HRL := Lib.hid hRL
      have hl1 := Lib.hid a4.1
      have hl1b := a4.2.1
      have hl2b := b4.2.1
      have hl2 := Lib.hid b4.1
      have hs1 := Lib.hid a5.1
      have hs2 := Lib.hid b5.1
      have HKA := Lib.hid (a5.stay hW HHS.out)
      have HKB := Lib.hid (b5.stay hW HHS.out)
      have HLA := Lib.hid (a4.stay hW HHS.out)
      have HLB := Lib.hid (b4.stay hW HHS.out)
      clear hz hro hRK hRL a4 b4 a5 b5 a1 b1
      go_upto_region 11 with fail
      go_wp2_with fail
      go_loopw [5] (fun i wr => ∃ j q : Nat, j ≤ km1 ∧ j ≤ km2 ∧ i = .int .i64 (j : Int) ∧ Hid (lexC cmpB (ks1.drop j) (ks2.drop j) = RK) ∧ wr = W1.drewN q) (fun i _ => km1 - (RowKit.intOf i).toNat)
      case atStart => exact ⟨0, 0, Nat.zero_le _, Nat.zero_le _, rfl, HRK.out, rfl⟩
      case round =>
        obtain ⟨j, q, hj1, hj2, rfl, hlx, rfl⟩ := hrel
        have HLX := Lib.hid hlx.out
        clear hlx
        have hj0 : (0 : Int) ≤ (j : Int) := by omega
        have hjt : ((j : Int)).toNat = j := by omega
        have hjw : IntKind.i64.wrap ((j : Int) + 1) = (j : Int) + 1 := IntWalk.i64_in _ (by omega)
        have hbq : Below w.heap.size w (W1.drewN q) := hW.trans (below_drewN (Below.refl _ _) _)
        by_cases h1 : j < km1
        · have hlt1 : (j : Int) < (km1 : Int) := by omega
          have hne1 : ((j : Int) == (km1 : Int)) = false := by rw [beq_eq_false_iff_ne]; omega
          obtain ⟨bb1, o1, s1, rfl, _, hss1, hc1⟩ := HKA.out.at_ h1
          by_cases h2 : j < km2
          · have hlt2 : (j : Int) < (km2 : Int) := by omega
            have hne2 : ((j : Int) == (km2 : Int)) = false := by rw [beq_eq_false_iff_ne]; omega
            obtain ⟨bb2, o2, s2, rfl, _, hss2, hc2⟩ := HKB.out.at_ h2
            have hst := lexC_step cmpB hss1 hss2
            rw [HLX.out] at hst
            clear hss1 hss2
            rcases cmpB_three s1 s2 with ⟨hc, hz⟩ | ⟨hc, hz⟩ | ⟨hc, hz⟩
            · rw [hz, if_neg (by decide)] at hst
              have HR2 : Hid (R = -1) := by
                show _ = _
                rw [HRO.out, hst]; rfl
              have g2 : Go.Op.bytesLess s1.toList s2.toList = true := by rw [bytesLess_eq, decide_eq_true_eq]; exact hc
              clear hc hz hst HLX
              go_wp2_with fail
              go_quiet (fail)
              go_wp2_with fail
              go_ret
              refine ⟨?_, hW.trans (below_drewN (below_drewN (Below.refl _ _) _) _)⟩
              rw [HR2.out]; rfl
            · subst hc
              rw [hz, if_pos rfl] at hst
              have HST := Lib.hid hst
              have g2 : Go.Op.bytesLess s1.toList s1.toList = false := by rw [bytesLess_eq, decide_eq_false_iff_not]; exact List.lt_irrefl _
              clear hz hst HLX
              go_wp2_with fail
              go_quiet (fail)
              go_wp2_with fail
              go_quiet (fail)
              go_wp2_with fail
              exact ⟨⟨j + 1, _, by omega, by omega, by go_num, HST.out.symm, rfl⟩, by simp [RowKit.intOf]; omega⟩
            · rw [hz, if_neg (by decide)] at hst
              have HR2 : Hid (R = 1) := by
                show _ = _
                rw [HRO.out, hst]; rfl
              have g2 : Go.Op.bytesLess s2.toList s1.toList = true := by rw [bytesLess_eq, decide_eq_true_eq]; exact hc
              have g3 : Go.Op.bytesLess s1.toList s2.toList = false := by rw [bytesLess_eq, decide_eq_false_iff_not]; exact List.lt_asymm hc
              have g4 : (s1.toList == s2.toList) = false := by rw [beq_eq_false_iff_ne]; intro h; rw [h] at hc; exact List.lt_irrefl _ hc
              clear hc hz hst HLX
              go_wp2_with fail
              go_quiet (fail)
              go_wp2_with fail
              go_quiet (fail)
              go_wp2_with fail
              go_ret
              refine ⟨?_, hW.trans (below_drewN (below_drewN (below_drewN (Below.refl _ _) _) _) _)⟩
              rw [HR2.out]; rfl
          · have hlt2 : ¬ (j : Int) < (km2 : Int) := by omega
            have hj3 : j = km2 := by omega
            have HR2 : Hid (R = 1) := by
              show _ = _
              have h9 := lexC_stop cmpB hss1 (m := ks2) (by have := hs2.out; omega)
              rw [HLX.out] at h9
              rw [HRO.out, h9]; rfl
            clear hss1 HLX
            have heq2 : ((j : Int) == (km2 : Int)) = true := by rw [beq_iff_eq]; omega
            clear hj3
            go_wp2_with fail
            go_ret
            refine ⟨?_, hbq⟩
            rw [HR2.out]; rfl
        · have hlt1 : ¬ (j : Int) < (km1 : Int) := by omega
          have heq1 : ((j : Int) == (km1 : Int)) = true := by rw [beq_iff_eq]; omega
          by_cases h2 : j < km2
          · have hlt2 : (j : Int) < (km2 : Int) := by omega
            have HR2 : Hid (R = -1) := by
              show _ = _
              have h9 := lexC_end cmpB (m := ks2) (l := ks1) (k := j) (by have := hs1.out; omega)
              rw [HLX.out, if_pos (by have := hs2.out; omega)] at h9
              rw [HRO.out, h9]; rfl
            clear HLX
            go_wp2_with fail
            go_ret
            refine ⟨?_, hbq⟩
            rw [HR2.out]; rfl
          · have hlt2 : ¬ (j : Int) < (km2 : Int) := by omega
            have HR3 : Hid (R = RL) := by
              show _ = _
              have h9 := lexC_end cmpB (m := ks2) (l := ks1) (k := j) (by have := hs1.out; omega)
              rw [HLX.out, if_neg (by have := hs2.out; omega)] at h9
              rw [HRO.out, if_pos h9]
            clear HLX HRO HRK HKA HKB heq1
            go_wp2_with fail
            go_loopw [6] (fun i wr => ∃ j : Nat, j ≤ lm1 ∧ j ≤ lm2 ∧ i = .int .i64 (j : Int) ∧ Hid (lexC ordV (l1.drop j) (l2.drop j) = RL) ∧ Below W1.heap.size W1 wr) (fun i _ => lm1 - (RowKit.intOf i).toNat)
            case atStart => exact ⟨0, Nat.zero_le _, Nat.zero_le _, rfl, HRL.out, below_drewN (Below.refl _ _) _⟩
            case round =>
              clear hj0 hjt hjw hlt1 hlt2 h1 h2 hj1 hj2 hbq
              obtain ⟨j, hj1, hj2, rfl, hlx, hbel⟩ := hrel
              have HLX := Lib.hid hlx.out
              clear hlx
              have q1 := (hbel.block _ (by omega)).trans HM1.out
              have q2 := (hbel.block _ (by omega)).trans HM2.out
              have hzr : W1.heap.size ≤ wr.heap.size := hbel.size
              clear x0 x1 x2 x3 x4 x5 x6 y0 y1 y2 y3 y4 y5 y6
              obtain ⟨x0, x1, x2, x3, x4, x5, x6⟩ := box7_of q1
              obtain ⟨y0, y1, y2, y3, y4, y5, y6⟩ := box7_of q2
              have hj0 : (0 : Int) ≤ (j : Int) := by omega
              have hjt : ((j : Int)).toNat = j := by omega
              have hjw : IntKind.i64.wrap ((j : Int) + 1) = (j : Int) + 1 := IntWalk.i64_in _ (by omega)
              have hbr : Below w.heap.size w wr := hW.trans (hbel.mono (by omega))
              by_cases h1 : j < lm1
              · have hlt1 : (j : Int) < (lm1 : Int) := by omega
                have hne1 : ((j : Int) == (lm1 : Int)) = false := by rw [beq_eq_false_iff_ne]; omega
                obtain ⟨bb1, o1, z1, zs1, rfl, hSb1, hz1, hzl1, hcc1, hv1⟩ := HLA.out.at_ h1
                by_cases h2 : j < lm2
                · have hlt2 : (j : Int) < (lm2 : Int) := by omega
                  have hne2 : ((j : Int) == (lm2 : Int)) = false := by rw [beq_eq_false_iff_ne]; omega
                  obtain ⟨bb2, o2, z2, zs2, rfl, hSb2, hz2, hzl2, hcc2, hv2⟩ := HLB.out.at_ h2
                  have hst := lexC_step ordV hz1 hz2
                  rw [HLX.out] at hst
                  obtain ⟨k3, n3, u3, e3, t3, l3, ks3, hz1k⟩ : ∃ k neg xs e t li ks, z1 = VT.mk k neg xs e t li ks := by cases z1; exact ⟨_, _, _, _, _, _, _, rfl⟩
                  obtain ⟨k4, n4, u4, e4, t4, l4, ks4, hz2k⟩ : ∃ k neg xs e t li ks, z2 = VT.mk k neg xs e t li ks := by cases z2; exact ⟨_, _, _, _, _, _, _, rfl⟩
                  have hv1' := hv1
                  have hv2' := hv2
                  rw [hz1k] at hv1'
                  rw [hz2k] at hv2'
                  obtain ⟨A3, m3, c3, LA3, lm3, lc3, KA3, km3, kc3, rfl, -⟩ := hv1'.parts
                  obtain ⟨A4, m4, c4, LA4, lm4, lc4, KA4, km4, kc4, rfl, -⟩ := hv2'.parts
                  clear hv1' hv2' hz1k hz2k hzl1 hzl2
                  have d0 : wr.drew.cell? ⟨bb1, o1 + j * 7, none⟩ = some (.int .i64 k3) := (hbel.cell (p := ⟨bb1, o1 + j * 7, none⟩) (by show bb1 < W1.heap.size; have := HHS.out _ hSb1; omega)).trans (hcc1 0 (by omega))
                  have d1 : wr.drew.cell? ⟨bb1, o1 + j * 7 + 1, none⟩ = some (.bool n3) := (hbel.cell (p := ⟨bb1, o1 + j * 7 + 1, none⟩) (by show bb1 < W1.heap.size; have := HHS.out _ hSb1; omega)).trans (hcc1 1 (by omega))
                  have d2 : wr.drew.cell? ⟨bb1, o1 + j * 7 + 2, none⟩ = some (.slice A3 m3 c3) := (hbel.cell (p := ⟨bb1, o1 + j * 7 + 2, none⟩) (by show bb1 < W1.heap.size; have := HHS.out _ hSb1; omega)).trans (hcc1 2 (by omega))
                  have d3 : wr.drew.cell? ⟨bb1, o1 + j * 7 + 3, none⟩ = some (.int .i64 e3) := (hbel.cell (p := ⟨bb1, o1 + j * 7 + 3, none⟩) (by show bb1 < W1.heap.size; have := HHS.out _ hSb1; omega)).trans (hcc1 3 (by omega))
                  have d4 : wr.drew.cell? ⟨bb1, o1 + j * 7 + 4, none⟩ = some (.string t3) := (hbel.cell (p := ⟨bb1, o1 + j * 7 + 4, none⟩) (by show bb1 < W1.heap.size; have := HHS.out _ hSb1; omega)).trans (hcc1 4 (by omega))
                  have d5 : wr.drew.cell? ⟨bb1, o1 + j * 7 + 5, none⟩ = some (.slice LA3 lm3 lc3) := (hbel.cell (p := ⟨bb1, o1 + j * 7 + 5, none⟩) (by show bb1 < W1.heap.size; have := HHS.out _ hSb1; omega)).trans (hcc1 5 (by omega))
                  have d6 : wr.drew.cell? ⟨bb1, o1 + j * 7 + 6, none⟩ = some (.slice KA3 km3 kc3) := (hbel.cell (p := ⟨bb1, o1 + j * 7 + 6, none⟩) (by show bb1 < W1.heap.size; have := HHS.out _ hSb1; omega)).trans (hcc1 6 (by omega))
                  have f0 : wr.drew.cell? ⟨bb2, o2 + j * 7, none⟩ = some (.int .i64 k4) := (hbel.cell (p := ⟨bb2, o2 + j * 7, none⟩) (by show bb2 < W1.heap.size; have := HHS.out _ hSb2; omega)).trans (hcc2 0 (by omega))
                  have f1 : wr.drew.cell? ⟨bb2, o2 + j * 7 + 1, none⟩ = some (.bool n4) := (hbel.cell (p := ⟨bb2, o2 + j * 7 + 1, none⟩) (by show bb2 < W1.heap.size; have := HHS.out _ hSb2; omega)).trans (hcc2 1 (by omega))
                  have f2 : wr.drew.cell? ⟨bb2, o2 + j * 7 + 2, none⟩ = some (.slice A4 m4 c4) := (hbel.cell (p := ⟨bb2, o2 + j * 7 + 2, none⟩) (by show bb2 < W1.heap.size; have := HHS.out _ hSb2; omega)).trans (hcc2 2 (by omega))
                  have f3 : wr.drew.cell? ⟨bb2, o2 + j * 7 + 3, none⟩ = some (.int .i64 e4) := (hbel.cell (p := ⟨bb2, o2 + j * 7 + 3, none⟩) (by show bb2 < W1.heap.size; have := HHS.out _ hSb2; omega)).trans (hcc2 3 (by omega))
                  have f4 : wr.drew.cell? ⟨bb2, o2 + j * 7 + 4, none⟩ = some (.string t4) := (hbel.cell (p := ⟨bb2, o2 + j * 7 + 4, none⟩) (by show bb2 < W1.heap.size; have := HHS.out _ hSb2; omega)).trans (hcc2 4 (by omega))
                  have f5 : wr.drew.cell? ⟨bb2, o2 + j * 7 + 5, none⟩ = some (.slice LA4 lm4 lc4) := (hbel.cell (p := ⟨bb2, o2 + j * 7 + 5, none⟩) (by show bb2 < W1.heap.size; have := HHS.out _ hSb2; omega)).trans (hcc2 5 (by omega))
                  have f6 : wr.drew.cell? ⟨bb2, o2 + j * 7 + 6, none⟩ = some (.slice KA4 km4 kc4) := (hbel.cell (p := ⟨bb2, o2 + j * 7 + 6, none⟩) (by show bb2 < W1.heap.size; have := HHS.out _ hSb2; omega)).trans (hcc2 6 (by omega))
                  have p5 : wr.drew.cell? ⟨w.heap.size, 5, none⟩ = some (.slice (some ⟨bb1, o1, none⟩) lm1 lc1) := x5
                  have r5 : wr.drew.cell? ⟨w.heap.size + 1, 5, none⟩ = some (.slice (some ⟨bb2, o2, none⟩) lm2 lc2) := y5
                  have hwr : Below w.heap.size w wr.drew := hbr.drew
                  have HC := (HLI.out z1 (List.mem_of_getElem? hz1)).1 z2 S _ _ wr.drew (HLI.out z1 (List.mem_of_getElem? hz1)).2 (HLJ.out z2 (List.mem_of_getElem? hz2)) (hv1.keep fun p hp => hbel.cell (by have := HHS.out _ hp; omega)) (hv2.keep fun p hp => hbel.cell (by have := HHS.out _ hp; omega)) (fun b hb => Nat.lt_of_lt_of_le (HHS.out b hb) hwr.size)
                  obtain ⟨E, hE⟩ : ∃ E, ordV z1 z2 = E := ⟨_, rfl⟩
                  rw [hE] at HC hst
                  have HST := Lib.hid hst
                  have HBEL := Lib.hid hbel
                  have HWR := Lib.hid hwr
                  clear hE hst hz1 hz2 hv1 hv2 hcc1 hcc2 hbel hwr q1 q2
                  go_upto_region 29 with fail
                  refine wp_region_held_drew (S := fun w' => w'.cell? ⟨w.heap.size, 5, none⟩ = some (.slice (some ⟨bb1, o1, none⟩) lm1 lc1) ∧ w'.cell? ⟨w.heap.size + 1, 5, none⟩ = some (.slice (some ⟨bb2, o2, none⟩) lm2 lc2) ∧ w'.cell? ⟨bb1, o1 + j * 7, none⟩ = some (.int .i64 k3) ∧ w'.cell? ⟨bb1, o1 + j * 7 + 1, none⟩ = some (.bool n3) ∧ w'.cell? ⟨bb1, o1 + j * 7 + 2, none⟩ = some (.slice A3 m3 c3) ∧ w'.cell? ⟨bb1, o1 + j * 7 + 3, none⟩ = some (.int .i64 e3) ∧ w'.cell? ⟨bb1, o1 + j * 7 + 4, none⟩ = some (.string t3) ∧ w'.cell? ⟨bb1, o1 + j * 7 + 5, none⟩ = some (.slice LA3 lm3 lc3) ∧ w'.cell? ⟨bb1, o1 + j * 7 + 6, none⟩ = some (.slice KA3 km3 kc3) ∧ w'.cell? ⟨bb2, o2 + j * 7, none⟩ = some (.int .i64 k4) ∧ w'.cell? ⟨bb2, o2 + j * 7 + 1, none⟩ = some (.bool n4) ∧ w'.cell? ⟨bb2, o2 + j * 7 + 2, none⟩ = some (.slice A4 m4 c4) ∧ w'.cell? ⟨bb2, o2 + j * 7 + 3, none⟩ = some (.int .i64 e4) ∧ w'.cell? ⟨bb2, o2 + j * 7 + 4, none⟩ = some (.string t4) ∧ w'.cell? ⟨bb2, o2 + j * 7 + 5, none⟩ = some (.slice LA4 lm4 lc4) ∧ w'.cell? ⟨bb2, o2 + j * 7 + 6, none⟩ = some (.slice KA4 km4 kc4)) (by kernel_rfl) ⟨p5, r5, d0, d1, d2, d3, d4, d5, d6, f0, f1, f2, f3, f4, f5, f6⟩ (fun hHeld => ?_)
                  (try simp only [List.size_toArray, List.length_cons, List.length_nil, Nat.reduceAdd, Array.replicate_succ, Array.replicate_zero, List.push_toArray, List.append_toArray, List.nil_append, List.cons_append])
                  refine wpAnyH_take (i := 0) (oi := ⟨_, _, _, _, _, _⟩) (v := ?_) rfl (by kernel_rfl) (by kernel_rfl) (by kernel_rfl) (fun _ _ _ h => h) (Or.inl ⟨by rfl, ?_⟩) (by assumption) ?_
                  rotate_left
                  · intro w hSw
                    (try dsimp only at hSw)
                    go_split_ands
                    go_simp
                    try with_reducible rfl
                  try simp only [Act.put, List.setIfInBounds_toArray, List.set_cons_zero, List.set_cons_succ]
                  refine wpAnyH_take (i := 1) (oi := ⟨_, _, _, _, _, _⟩) (v := ?_) rfl (by kernel_rfl) (by kernel_rfl) (by kernel_rfl) (fun _ _ _ h => h) (Or.inl ⟨by rfl, ?_⟩) (by assumption) ?_
                  rotate_left
                  · intro w hSw
                    (try dsimp only at hSw)
                    go_split_ands
                    go_simp
                    try with_reducible rfl
                  try simp only [Act.put, List.setIfInBounds_toArray, List.set_cons_zero, List.set_cons_succ]
                  refine wpAnyH_take (i := 2) (oi := ⟨_, _, _, _, _, _⟩) (v := ?_) rfl (by kernel_rfl) (by kernel_rfl) (by kernel_rfl) (fun _ _ _ h => h) (Or.inl ⟨by rfl, ?_⟩) (by assumption) ?_
                  rotate_left
                  · intro w hSw
                    (try dsimp only at hSw)
                    go_split_ands
                    go_simp
                    try with_reducible rfl
                  try simp only [Act.put, List.setIfInBounds_toArray, List.set_cons_zero, List.set_cons_succ]
                  refine wpAnyH_take (i := 3) (oi := ⟨_, _, _, _, _, _⟩) (v := ?_) rfl (by kernel_rfl) (by kernel_rfl) (by kernel_rfl) (fun _ _ _ h => h) (Or.inl ⟨by rfl, ?_⟩) (by assumption) ?_
                  rotate_left
                  · intro w hSw
                    (try dsimp only at hSw)
                    go_split_ands
                    go_simp
                    try with_reducible rfl
                  try simp only [Act.put, List.setIfInBounds_toArray, List.set_cons_zero, List.set_cons_succ]
                  refine wpAnyH_take (i := 4) (oi := ⟨_, _, _, _, _, _⟩) (v := ?_) rfl (by kernel_rfl) (by kernel_rfl) (by kernel_rfl) (fun _ _ _ h => h) (Or.inl ⟨by rfl, ?_⟩) (by assumption) ?_
                  rotate_left
                  · intro w hSw
                    (try dsimp only at hSw)
                    go_split_ands
                    go_simp
                    try with_reducible rfl
                  try simp only [Act.put, List.setIfInBounds_toArray, List.set_cons_zero, List.set_cons_succ]
                  refine wpAnyH_take (i := 5) (oi := ⟨_, _, _, _, _, _⟩) (v := ?_) rfl (by kernel_rfl) (by kernel_rfl) (by kernel_rfl) (fun _ _ _ h => h) (Or.inl ⟨by rfl, ?_⟩) (by assumption) ?_
                  rotate_left
                  · intro w hSw
                    (try dsimp only at hSw)
                    go_split_ands
                    go_simp
                    try with_reducible rfl
                  try simp only [Act.put, List.setIfInBounds_toArray, List.set_cons_zero, List.set_cons_succ]
                  refine wpAnyH_take (i := 6) (oi := ⟨_, _, _, _, _, _⟩) (v := ?_) rfl (by kernel_rfl) (by kernel_rfl) (by kernel_rfl) (fun _ _ _ h => h) (Or.inl ⟨by rfl, ?_⟩) (by assumption) ?_
                  rotate_left
                  · intro w hSw
                    (try dsimp only at hSw)
                    go_split_ands
                    go_simp
                    try with_reducible rfl
                  try simp only [Act.put, List.setIfInBounds_toArray, List.set_cons_zero, List.set_cons_succ]
                  refine wpAnyH_take (i := 7) (oi := ⟨_, _, _, _, _, _⟩) (v := ?_) rfl (by kernel_rfl) (by kernel_rfl) (by kernel_rfl) (fun _ _ _ h => h) (Or.inl ⟨by rfl, ?_⟩) (by assumption) ?_
                  rotate_left
                  · intro w hSw
                    (try dsimp only at hSw)
                    go_split_ands
                    go_simp
                    try with_reducible rfl
                  try simp only [Act.put, List.setIfInBounds_toArray, List.set_cons_zero, List.set_cons_succ]
                  refine wpAnyH_take (i := 8) (oi := ⟨_, _, _, _, _, _⟩) (v := ?_) rfl (by kernel_rfl) (by kernel_rfl) (by kernel_rfl) (fun _ _ _ h => h) (Or.inl ⟨by rfl, ?_⟩) (by assumption) ?_
                  rotate_left
                  · intro w hSw
                    (try dsimp only at hSw)
                    go_split_ands
                    go_simp
                    try with_reducible rfl
                  try simp only [Act.put, List.setIfInBounds_toArray, List.set_cons_zero, List.set_cons_succ]
                  refine wpAnyH_take (i := 9) (oi := ⟨_, _, _, _, _, _⟩) (v := ?_) rfl (by kernel_rfl) (by kernel_rfl) (by kernel_rfl) (fun _ _ _ h => h) (Or.inl ⟨by rfl, ?_⟩) (by assumption) ?_
                  rotate_left
                  · intro w hSw
                    (try dsimp only at hSw)
                    go_split_ands
                    go_simp
                    try with_reducible rfl
                  try simp only [Act.put, List.setIfInBounds_toArray, List.set_cons_zero, List.set_cons_succ]
                  refine wpAnyH_ready (rs := [10]) (by kernel_rfl) (by simp) (AllReadyH.cons (o := ⟨_, _, _, _, _, _⟩) rfl (fun K hK => ?_) AllReadyH.nil)
                  go_simp
                  refine HC.mono ?_
                  rintro e' w6 ⟨rfl, hb6⟩
                  (try dsimp only)
                  have hbb : ∀ p : Addr, p.block < wr.drew.heap.size → w6.cell? p = wr.drew.cell? p := fun p hp => hb6.cell hp
                  have hq1 : w.heap.size + 2 ≤ wr.drew.heap.size := by have := hzr; show w.heap.size + 2 ≤ wr.heap.size; omega
                  have hq2 : bb1 < wr.drew.heap.size := by have := HHS.out _ hSb1; have := HWR.out.size; omega
                  have hq3 : bb2 < wr.drew.heap.size := by have := HHS.out _ hSb2; have := HWR.out.size; omega
                  refine hK.out _ _ ⟨(hbb ⟨w.heap.size, 5, none⟩ (by show w.heap.size < wr.drew.heap.size; omega)).trans p5, (hbb ⟨w.heap.size + 1, 5, none⟩ (by show w.heap.size + 1 < wr.drew.heap.size; omega)).trans r5, (hbb ⟨bb1, o1 + j * 7, none⟩ hq2).trans d0, (hbb ⟨bb1, o1 + j * 7 + 1, none⟩ hq2).trans d1, (hbb ⟨bb1, o1 + j * 7 + 2, none⟩ hq2).trans d2, (hbb ⟨bb1, o1 + j * 7 + 3, none⟩ hq2).trans d3, (hbb ⟨bb1, o1 + j * 7 + 4, none⟩ hq2).trans d4, (hbb ⟨bb1, o1 + j * 7 + 5, none⟩ hq2).trans d5, (hbb ⟨bb1, o1 + j * 7 + 6, none⟩ hq2).trans d6, (hbb ⟨bb2, o2 + j * 7, none⟩ hq3).trans f0, (hbb ⟨bb2, o2 + j * 7 + 1, none⟩ hq3).trans f1, (hbb ⟨bb2, o2 + j * 7 + 2, none⟩ hq3).trans f2, (hbb ⟨bb2, o2 + j * 7 + 3, none⟩ hq3).trans f3, (hbb ⟨bb2, o2 + j * 7 + 4, none⟩ hq3).trans f4, (hbb ⟨bb2, o2 + j * 7 + 5, none⟩ hq3).trans f5, (hbb ⟨bb2, o2 + j * 7 + 6, none⟩ hq3).trans f6⟩ (fun hHeld2 => ?_)
                  clear hK K
                  try simp only [Act.put, List.setIfInBounds_toArray, List.set_cons_zero, List.set_cons_succ]
                  refine wpAnyH_take (i := 11) (oi := ⟨_, _, _, _, _, _⟩) (v := ?_) rfl (by kernel_rfl) (by kernel_rfl) (by kernel_rfl) (fun _ _ _ h => h) (Or.inl ⟨by rfl, ?_⟩) (by assumption) ?_
                  rotate_left
                  · intro w hSw
                    (try dsimp only at hSw)
                    go_split_ands
                    go_simp
                    try with_reducible rfl
                  try simp only [Act.put, List.setIfInBounds_toArray, List.set_cons_zero, List.set_cons_succ]
                  refine wpAnyH_done (by kernel_rfl) ?_ _
                  have hb7 : Below W1.heap.size W1 w6 := (HBEL.out.drew).trans (hb6.mono (by have := hzr; show W1.heap.size ≤ wr.heap.size; omega))
                  clear hHeld hHeld2 hbb hb6 HC p5 r5 d0 d1 d2 d3 d4 d5 d6 f0 f1 f2 f3 f4 f5 f6
                  by_cases hE0 : E = 0
                  · subst hE0
                    have HST2 : Hid (lexC ordV (l1.drop (j + 1)) (l2.drop (j + 1)) = RL) := by
                      have := HST.out
                      rw [if_pos rfl] at this
                      exact this.symm
                    clear HST HLX
                    go_wp2_with fail
                    refine ⟨⟨j + 1, by omega, by omega, by go_num, HST2, hb7⟩, by simp [RowKit.intOf]; omega⟩
                  · have HR4 : Hid (R = E) := by
                      show _ = _
                      have := HST.out
                      rw [if_neg hE0] at this
                      rw [HR3.out, this]
                    have hE1 : (E == 0) = false := by rw [beq_eq_false_iff_ne]; exact hE0
                    clear HST HLX
                    go_wp2_with fail
                    go_ret
                    refine ⟨?_, hW.trans (hb7.mono (by omega))⟩
                    rw [HR4.out]; rfl
                · have hlt2 : ¬ (j : Int) < (lm2 : Int) := by omega
                  have heq2 : ((j : Int) == (lm2 : Int)) = true := by rw [beq_iff_eq]; omega
                  have HR2 : Hid (R = 1) := by
                    show _ = _
                    have h9 := lexC_stop ordV hz1 (m := l2) (by have := hl2.out; omega)
                    rw [HLX.out] at h9
                    rw [HR3.out, h9]
                  clear hz1 HLX hv1 hcc1
                  go_wp2_with fail
                  go_ret
                  refine ⟨?_, hbr⟩
                  rw [HR2.out]; rfl
              · have hlt1 : ¬ (j : Int) < (lm1 : Int) := by omega
                have heq1 : ((j : Int) == (lm1 : Int)) = true := by rw [beq_iff_eq]; omega
                have h9 := lexC_end ordV (m := l2) (l := l1) (k := j) (by have := hl1.out; omega)
                rw [HLX.out] at h9
                by_cases h2 : j < lm2
                · have hlt2 : (j : Int) < (lm2 : Int) := by omega
                  have HR2 : Hid (R = -1) := by
                    show _ = _
                    rw [if_pos (by have := hl2.out; omega)] at h9
                    rw [HR3.out, h9]
                  clear HLX h9
                  go_wp2_with fail
                  go_ret
                  refine ⟨?_, hbr⟩
                  rw [HR2.out]; rfl
                · have hlt2 : ¬ (j : Int) < (lm2 : Int) := by omega
                  have HR2 : Hid (R = 0) := by
                    show _ = _
                    rw [if_neg (by have := hl2.out; omega)] at h9
                    rw [HR3.out, h9]
                  clear HLX h9
                  go_wp2_with fail
                  go_ret
                  refine ⟨?_, hbr⟩
                  rw [HR2.out]; rfl
    · have HR2 : Hid (R = 1) := by
        show _ = _
        rw [hro, hz]; rfl
      have g1 : Go.Op.bytesLess t2.toList t1.toList = true := by rw [bytesLess_eq, decide_eq_true_eq]; exact hc
      have g2 : Go.Op.bytesLess t1.toList t2.toList = false := by rw [bytesLess_eq, decide_eq_false_iff_not]; exact List.lt_asymm hc
      have g3 : (t1.toList == t2.toList) = false := by rw [beq_eq_false_iff_ne]; intro h; rw [h] at hc; exact List.lt_irrefl _ hc
      clear hc hz hro
      go_wp2_with fail
      go_ret
      refine ⟨?_, hW⟩
      rw [HR2.out]; rfl
theorem rorder_c (x : VT) : ROrds x := rorder_n _ x (Nat.lt_succ_self _)
end Go.Proofs.YtjjpagdnjafgaaaGreatDoor
