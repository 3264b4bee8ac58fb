/-
  Contract of the reference's Same: are any two values one?
-/
import Derived.Test.YtpmdcahomkdfmaaGreatDoorBVcm
import Derived.Deep.RegionHeld3
import Derived.Deep.QuietTactic
import Derived.BigQuiet
set_option linter.unusedVariables false
set_option linter.unusedSimpArgs false
namespace Go.Proofs.YtpmdcahomkdfmaaGreatDoor
open Go.RowKit Go.Lib

theorem mk_eq {k1 k2 : Int} {n1 n2 : Bool} {u1 u2 : List Nat} {e1 e2 : Int} {t1 t2 : ByteArray} {l1 l2 : List VT} {s1 s2 : List ByteArray} : VT.mk k1 n1 u1 e1 t1 l1 s1 = VT.mk k2 n2 u2 e2 t2 l2 s2 ↔ k1 = k2 ∧ (n1 = n2 ∧ e1 = e2 ∧ u1 = u2) ∧ t1 = t2 ∧ l1 = l2 ∧ s1 = s2 := by
  constructor
  · intro h; injection h with a b c d e f g; exact ⟨a, ⟨b, d, c⟩, e, f, g⟩
  · rintro ⟨rfl, ⟨rfl, rfl, rfl⟩, rfl, rfl, rfl⟩; rfl
mutual
/-- Whether two trees are one. -/
def sameV : VT → VT → Bool
  | .mk k n x e t l s, .mk k' n' x' e' t' l' s' => decide (k = k' ∧ (n = n' ∧ e = e' ∧ x = x') ∧ t = t' ∧ s = s') && sameL l l'
def sameL : List VT → List VT → Bool
  | [], [] => true
  | [], _ :: _ => false
  | _ :: _, [] => false
  | a :: r, b :: s => sameV a b && sameL r s
end
mutual
theorem sameV_iff : ∀ {x y : VT}, sameV x y = true ↔ x = y
  | .mk k n x e t l s, .mk k' n' x' e' t' l' s' => by
    have h := sameL_iff (l := l) (m := l')
    unfold sameV
    rw [Bool.and_eq_true, decide_eq_true_eq, h, mk_eq]
    exact ⟨fun ⟨⟨a, b, c, d⟩, e⟩ => ⟨a, b, c, e, d⟩, fun ⟨a, b, c, e, d⟩ => ⟨⟨a, b, c, d⟩, e⟩⟩
theorem sameL_iff : ∀ {l m : List VT}, sameL l m = true ↔ l = m
  | [], [] => by simp [sameL]
  | [], _ :: _ => by simp [sameL]
  | _ :: _, [] => by simp [sameL]
  | a :: r, b :: s => by
    have h1 := sameV_iff (x := a) (y := b)
    have h2 := sameL_iff (l := r) (m := s)
    unfold sameL
    rw [Bool.and_eq_true, h1, h2, List.cons.injEq]
end
theorem sameV_no {x y : VT} (h : ¬ x = y) : sameV x y = false := by
  cases hs : sameV x y with
  | false => rfl
  | true => exact absurd (sameV_iff.1 hs) h
/-- Same tells of x and any other tree whether they are one. -/
def Sames (x : VT) : Prop := ∀ (y : VT) (S S' : Nat → Prop) (cs ds : List Value) (w : World), VIn w S x cs → VIn w S' y ds → (∀ b, S b → b < w.heap.size) → (∀ b, S' b → b < w.heap.size) →
  Calls Tryz.prog 8 #[.agg cs.toArray, .agg ds.toArray] w fun e w' => e = .returned (.bool (sameV x y)) ∧ Below w.heap.size w w'

/-- Two rows are one as far as this. -/
theorem eq_of_to {α : Type} {l m : List α} {k : Nat} (hl : l.length = m.length) (hk : l.length ≤ k) (h : ∀ j a b, j < k → l[j]? = some a → m[j]? = some b → a = b) : l = m := by
  apply List.ext_getElem hl
  intro i h1 h2
  exact h i _ _ (by omega) (List.getElem?_eq_getElem h1) (List.getElem?_eq_getElem h2)

set_option maxRecDepth 100000 in
set_option maxHeartbeats 8000000 in
theorem same_n : ∀ (N : Nat) (x : VT), SizeOf.sizeOf x < N → Sames x := by
  intro N
  induction N with
  | zero => intro x h; exact absurd h (Nat.not_lt_zero _)
  | succ N ih =>
    intro x hN y S S' cs ds w hvx hvy hS hS'
    obtain ⟨k1, n1, u1, e1, t1, l1, ks1⟩ := x
    obtain ⟨k2, n2, u2, e2, t2, l2, ks2⟩ := y
    obtain ⟨A1, m1, c1, LA1, lm1, lc1, KA1, km1, kc1, rfl, a1, a2, a3, a4, a5, a6, a7⟩ := hvx.parts
    obtain ⟨A2, m2, c2, LA2, lm2, lc2, KA2, km2, kc2, rfl, b1, b2, b3, b4, b5, b6, b7⟩ := hvy.parts
    have hli : ∀ z ∈ l1, Sames z := fun z hz => ih z (by have := size_list (k := k1) (n := n1) (x := u1) (e := e1) (t := t1) (ks := ks1) hz; omega)
    obtain ⟨R, hR⟩ : ∃ R, sameV (.mk k1 n1 u1 e1 t1 l1 ks1) (.mk k2 n2 u2 e2 t2 l2 ks2) = R := ⟨_, rfl⟩
    rw [hR]
    have HR := Lib.hid hR
    clear hR
    have HLI := Lib.hid hli
    have HHS := Lib.hid hS
    have HHT := Lib.hid hS'
    clear ih hN hvx hvy hli hS hS'
    have hW : Below w.heap.size w ((w.alloc (.cells #[.int .i64 k1, .bool n1, .slice A1 m1 c1, .int .i64 e1, .string t1, .slice LA1 lm1 lc1, .slice KA1 km1 kc1] 28)).alloc (.cells #[.int .i64 k2, .bool n2, .slice A2 m2 c2, .int .i64 e2, .string t2, .slice LA2 lm2 lc2, .slice KA2 km2 kc2] 28)) := ((Below.refl _ w).alloc (Nat.le_refl _) _).alloc (by simp) _
    have hm1 : ((w.alloc (.cells #[.int .i64 k1, .bool n1, .slice A1 m1 c1, .int .i64 e1, .string t1, .slice LA1 lm1 lc1, .slice KA1 km1 kc1] 28)).alloc (.cells #[.int .i64 k2, .bool n2, .slice A2 m2 c2, .int .i64 e2, .string t2, .slice LA2 lm2 lc2, .slice KA2 km2 kc2] 28)).heap[w.heap.size]? = some (.cells #[.int .i64 k1, .bool n1, .slice A1 m1 c1, .int .i64 e1, .string t1, .slice LA1 lm1 lc1, .slice KA1 km1 kc1] 28) := (Below.heap_alloc _ _ _ (by simp)).trans (World.alloc_heap_new w _)
    have hm2 : ((w.alloc (.cells #[.int .i64 k1, .bool n1, .slice A1 m1 c1, .int .i64 e1, .string t1, .slice LA1 lm1 lc1, .slice KA1 km1 kc1] 28)).alloc (.cells #[.int .i64 k2, .bool n2, .slice A2 m2 c2, .int .i64 e2, .string t2, .slice LA2 lm2 lc2, .slice KA2 km2 kc2] 28)).heap[w.heap.size + 1]? = some (.cells #[.int .i64 k2, .bool n2, .slice A2 m2 c2, .int .i64 e2, .string t2, .slice LA2 lm2 lc2, .slice KA2 km2 kc2] 28) := by
      have := World.alloc_heap_new (w.alloc (.cells #[.int .i64 k1, .bool n1, .slice A1 m1 c1, .int .i64 e1, .string t1, .slice LA1 lm1 lc1, .slice KA1 km1 kc1] 28)) (.cells #[.int .i64 k2, .bool n2, .slice A2 m2 c2, .int .i64 e2, .string t2, .slice LA2 lm2 lc2, .slice KA2 km2 kc2] 28)
      rwa [World.size_alloc] at this
    have hz : ((w.alloc (.cells #[.int .i64 k1, .bool n1, .slice A1 m1 c1, .int .i64 e1, .string t1, .slice LA1 lm1 lc1, .slice KA1 km1 kc1] 28)).alloc (.cells #[.int .i64 k2, .bool n2, .slice A2 m2 c2, .int .i64 e2, .string t2, .slice LA2 lm2 lc2, .slice KA2 km2 kc2] 28)).heap.size = w.heap.size + 2 := by simp
    go_enter Tryz.func8, Tryz.ntmps8
    go_upto_region 1 with fail
    generalize ((w.alloc (.cells #[.int .i64 k1, .bool n1, .slice A1 m1 c1, .int .i64 e1, .string t1, .slice LA1 lm1 lc1, .slice KA1 km1 kc1] 28)).alloc (.cells #[.int .i64 k2, .bool n2, .slice A2 m2 c2, .int .i64 e2, .string t2, .slice LA2 lm2 lc2, .slice KA2 km2 kc2] 28)) = W1 at *
    obtain ⟨x0, x1, x2, x3, x4, x5, x6⟩ := box7_of hm1
    obtain ⟨y0, y1, y2, y3, y4, y5, y6⟩ := box7_of hm2
    by_cases hk : k1 = k2
    · subst hk
      have HD := DSame_c (c := c1) (d := c2) n1 n2 e1 e2 W1 (a1.below hW HHS.out) (b1.below hW HHT.out) (fun b hb => by have := HHS.out b hb; omega) (fun b hb => by have := HHT.out b hb; omega) (by omega) (by omega)
      unfold dv at HD
      obtain ⟨P, hP⟩ : ∃ P, decide (n1 = n2 ∧ e1 = e2 ∧ u1 = u2) = P := ⟨_, rfl⟩
      rw [hP] at HD
      have HP := Lib.hid hP
      clear hP
      obtain ⟨T, hT⟩ : ∃ T : Bool, (t1.toList == t2.toList) = T := ⟨_, rfl⟩
      have HT : Hid (T = true ↔ t1 = t2) := by
        show _ ↔ _
        rw [← hT, beq_iff_eq]
        exact ⟨ba_eq, fun h => by rw [h]⟩
      go_wp2_with fail
      refine HD.mono ?_
      rintro e' w3 ⟨rfl, hb3⟩
      have g1 := (hb3.block _ (by omega)).trans hm1
      have g2 := (hb3.block _ (by omega)).trans hm2
      have hw3 := hW.trans (hb3.mono hW.size)
      have hz3 : w.heap.size + 2 ≤ w3.heap.size := by have := hb3.size; omega
      clear x0 x1 x2 x3 x4 x5 x6 y0 y1 y2 y3 y4 y5 y6 hm1 hm2 hb3 HD
      obtain ⟨x0, x1, x2, x3, x4, x5, x6⟩ := box7_of g1
      obtain ⟨y0, y1, y2, y3, y4, y5, y6⟩ := box7_of g2
      cases P
      · go_wp2_with fail
        go_ret
        refine ⟨?_, hw3⟩
        have := HP.out
        rw [decide_eq_false_iff_not] at this
        rw [← HR.out, sameV_no (fun h => this (mk_eq.1 h).2.1)]; rfl
      · cases T
        · go_wp2_with fail
          go_ret
          refine ⟨?_, hw3⟩
          rw [← HR.out, sameV_no (fun h => absurd (HT.out.2 (mk_eq.1 h).2.2.1) (by decide))]; rfl
        · have hl1 := a4.1
          have hl1b := a4.2.1
          have hl2 := b4.1
          have hs1 := a5.1
          have hs2 := b5.1
          by_cases hln : lm1 = lm2
          · subst hln
            by_cases hkn : km1 = km2
            · subst hkn
              have HKA := Lib.hid (a5.stay hw3 HHS.out)
              have HKB := Lib.hid (b5.stay hw3 HHT.out)
              have HLA := Lib.hid (a4.stay hw3 HHS.out)
              have HLB := Lib.hid (b4.stay hw3 HHT.out)
              clear a4 b4 a5 b5
              go_upto_region 4 with fail
              go_loopw [5] (fun i wr => ∃ j q : Nat, j ≤ km1 ∧ i = .int .i64 (j : Int) ∧ Hid (∀ i a b, i < j → ks1[i]? = some a → ks2[i]? = some b → a = b) ∧ wr = w3.drewN q) (fun i _ => km1 - (RowKit.intOf i).toNat)
              case atStart => exact ⟨0, 0, Nat.zero_le _, rfl, (fun i a b h => absurd h (Nat.not_lt_zero _)), rfl⟩
              case round =>
                obtain ⟨j, q, hj, rfl, hto, rfl⟩ := hrel
                have HTO := Lib.hid hto.out
                clear hto
                by_cases hjn : j < km1
                · obtain ⟨bb1, o1, s1, rfl, _, hss1, hc1⟩ := HKA.out.at_ hjn
                  obtain ⟨bb2, o2, s2, rfl, _, hss2, hc2⟩ := HKB.out.at_ hjn
                  have hlt : (j : Int) < (km1 : Int) := by omega
                  have hj0 : (0 : Int) ≤ (j : Int) := by omega
                  have hjt : ((j : Int)).toNat = j := by omega
                  have hjw : IntKind.i64.wrap ((j : Int) + 1) = (j : Int) + 1 := IntWalk.i64_in _ (by omega)
                  have HSS1 := Lib.hid hss1
                  have HSS2 := Lib.hid hss2
                  clear hss1 hss2
                  obtain ⟨E, hE⟩ : ∃ E : Bool, (s1.toList == s2.toList) = E := ⟨_, rfl⟩
                  have HE : Hid (E = true ↔ s1 = s2) := by
                    show _ ↔ _
                    rw [← hE, beq_iff_eq]
                    exact ⟨ba_eq, fun h => by rw [h]⟩
                  cases E
                  · go_wp2_with fail
                    go_quiet (fail)
                    go_wp2_with fail
                    go_ret
                    refine ⟨?_, hw3.trans (below_drewN (below_drewN (Below.refl _ _) _) _)⟩
                    rw [← HR.out, sameV_no (fun h => by
                      have h1 := (mk_eq.1 h).2.2.2.2
                      have h2 := HSS1.out
                      rw [h1, HSS2.out] at h2
                      injection h2 with h2
                      exact absurd (HE.out.2 h2.symm) (by decide))]; rfl
                  · go_wp2_with fail
                    go_quiet (fail)
                    go_wp2_with fail
                    refine ⟨⟨j + 1, _, by omega, by go_num, ?_, rfl⟩, by simp [RowKit.intOf]; omega⟩
                    intro i a b hi ha hb
                    by_cases hij : i = j
                    · subst hij
                      rw [HSS1.out] at ha; rw [HSS2.out] at hb
                      injection ha with ha; injection hb with hb
                      rw [← ha, ← hb]; exact HE.out.1 (by simp)
                    · exact HTO.out i a b (by omega) ha hb
                · have hge : ¬ (j : Int) < (km1 : Int) := by omega
                  have HEQ : Hid (ks1 = ks2) := eq_of_to (by omega) (by omega : ks1.length ≤ j) HTO.out
                  go_wp2_with fail
                  go_loopw [6] (fun i wr => ∃ j : Nat, j ≤ lm1 ∧ i = .int .i64 (j : Int) ∧ Hid (∀ i a b, i < j → l1[i]? = some a → l2[i]? = some b → a = b) ∧ Below w3.heap.size w3 wr) (fun i _ => lm1 - (RowKit.intOf i).toNat)
                  case atStart => exact ⟨0, Nat.zero_le _, rfl, (fun i a b h => absurd h (Nat.not_lt_zero _)), below_drewN (Below.refl _ _) _⟩
                  case round =>
                    obtain ⟨j, hj, rfl, hto, hbel⟩ := hrel
                    have HTO := Lib.hid hto.out
                    have q1 := (hbel.block _ (by omega)).trans g1
                    have q2 := (hbel.block _ (by omega)).trans g2
                    have hzr : w3.heap.size ≤ wr.heap.size := hbel.size
                    clear hto x0 x1 x2 x3 x4 x5 x6 y0 y1 y2 y3 y4 y5 y6
                    obtain ⟨x0, x1, x2, x3, x4, x5, x6⟩ := box7_of q1
                    obtain ⟨y0, y1, y2, y3, y4, y5, y6⟩ := box7_of q2
                    by_cases hjn : j < lm1
                    · obtain ⟨bb1, o1, z1, zs1, rfl, hSb1, hz1, hzl1, hcc1, hv1⟩ := HLA.out.at_ hjn
                      obtain ⟨bb2, o2, z2, zs2, rfl, hSb2, hz2, hzl2, hcc2, hv2⟩ := HLB.out.at_ hjn
                      obtain ⟨k3, n3, u3, e3, t3, l3, ks3, hz1k⟩ : ∃ k neg xs e t li ks, z1 = VT.mk k neg xs e t li ks := by cases z1; exact ⟨_, _, _, _, _, _, _, rfl⟩
                      obtain ⟨k4, n4, u4, e4, t4, l4, ks4, hz2k⟩ : ∃ k neg xs e t li ks, z2 = VT.mk k neg xs e t li ks := by cases z2; exact ⟨_, _, _, _, _, _, _, rfl⟩
                      have hv1' := hv1
                      have hv2' := hv2
                      rw [hz1k] at hv1'
                      rw [hz2k] at hv2'
                      obtain ⟨A3, m3, c3, LA3, lm3, lc3, KA3, km3, kc3, rfl, -⟩ := hv1'.parts
                      obtain ⟨A4, m4, c4, LA4, lm4, lc4, KA4, km4, kc4, rfl, -⟩ := hv2'.parts
                      clear hv1' hv2' hz1k hz2k hzl1 hzl2
                      have hlt : (j : Int) < (lm1 : Int) := by omega
                      have hj0 : (0 : Int) ≤ (j : Int) := by omega
                      have hjt : ((j : Int)).toNat = j := by omega
                      have hjw : IntKind.i64.wrap ((j : Int) + 1) = (j : Int) + 1 := IntWalk.i64_in _ (by omega)
                      have d0 : wr.drew.cell? ⟨bb1, o1 + j * 7, none⟩ = some (.int .i64 k3) := (hbel.cell (p := ⟨bb1, o1 + j * 7, none⟩) (by show bb1 < w3.heap.size; have := HHS.out _ hSb1; omega)).trans (hcc1 0 (by omega))
                      have d1 : wr.drew.cell? ⟨bb1, o1 + j * 7 + 1, none⟩ = some (.bool n3) := (hbel.cell (p := ⟨bb1, o1 + j * 7 + 1, none⟩) (by show bb1 < w3.heap.size; have := HHS.out _ hSb1; omega)).trans (hcc1 1 (by omega))
                      have d2 : wr.drew.cell? ⟨bb1, o1 + j * 7 + 2, none⟩ = some (.slice A3 m3 c3) := (hbel.cell (p := ⟨bb1, o1 + j * 7 + 2, none⟩) (by show bb1 < w3.heap.size; have := HHS.out _ hSb1; omega)).trans (hcc1 2 (by omega))
                      have d3 : wr.drew.cell? ⟨bb1, o1 + j * 7 + 3, none⟩ = some (.int .i64 e3) := (hbel.cell (p := ⟨bb1, o1 + j * 7 + 3, none⟩) (by show bb1 < w3.heap.size; have := HHS.out _ hSb1; omega)).trans (hcc1 3 (by omega))
                      have d4 : wr.drew.cell? ⟨bb1, o1 + j * 7 + 4, none⟩ = some (.string t3) := (hbel.cell (p := ⟨bb1, o1 + j * 7 + 4, none⟩) (by show bb1 < w3.heap.size; have := HHS.out _ hSb1; omega)).trans (hcc1 4 (by omega))
                      have d5 : wr.drew.cell? ⟨bb1, o1 + j * 7 + 5, none⟩ = some (.slice LA3 lm3 lc3) := (hbel.cell (p := ⟨bb1, o1 + j * 7 + 5, none⟩) (by show bb1 < w3.heap.size; have := HHS.out _ hSb1; omega)).trans (hcc1 5 (by omega))
                      have d6 : wr.drew.cell? ⟨bb1, o1 + j * 7 + 6, none⟩ = some (.slice KA3 km3 kc3) := (hbel.cell (p := ⟨bb1, o1 + j * 7 + 6, none⟩) (by show bb1 < w3.heap.size; have := HHS.out _ hSb1; omega)).trans (hcc1 6 (by omega))
                      have f0 : wr.drew.cell? ⟨bb2, o2 + j * 7, none⟩ = some (.int .i64 k4) := (hbel.cell (p := ⟨bb2, o2 + j * 7, none⟩) (by show bb2 < w3.heap.size; have := HHT.out _ hSb2; omega)).trans (hcc2 0 (by omega))
                      have f1 : wr.drew.cell? ⟨bb2, o2 + j * 7 + 1, none⟩ = some (.bool n4) := (hbel.cell (p := ⟨bb2, o2 + j * 7 + 1, none⟩) (by show bb2 < w3.heap.size; have := HHT.out _ hSb2; omega)).trans (hcc2 1 (by omega))
                      have f2 : wr.drew.cell? ⟨bb2, o2 + j * 7 + 2, none⟩ = some (.slice A4 m4 c4) := (hbel.cell (p := ⟨bb2, o2 + j * 7 + 2, none⟩) (by show bb2 < w3.heap.size; have := HHT.out _ hSb2; omega)).trans (hcc2 2 (by omega))
                      have f3 : wr.drew.cell? ⟨bb2, o2 + j * 7 + 3, none⟩ = some (.int .i64 e4) := (hbel.cell (p := ⟨bb2, o2 + j * 7 + 3, none⟩) (by show bb2 < w3.heap.size; have := HHT.out _ hSb2; omega)).trans (hcc2 3 (by omega))
                      have f4 : wr.drew.cell? ⟨bb2, o2 + j * 7 + 4, none⟩ = some (.string t4) := (hbel.cell (p := ⟨bb2, o2 + j * 7 + 4, none⟩) (by show bb2 < w3.heap.size; have := HHT.out _ hSb2; omega)).trans (hcc2 4 (by omega))
                      have f5 : wr.drew.cell? ⟨bb2, o2 + j * 7 + 5, none⟩ = some (.slice LA4 lm4 lc4) := (hbel.cell (p := ⟨bb2, o2 + j * 7 + 5, none⟩) (by show bb2 < w3.heap.size; have := HHT.out _ hSb2; omega)).trans (hcc2 5 (by omega))
                      have f6 : wr.drew.cell? ⟨bb2, o2 + j * 7 + 6, none⟩ = some (.slice KA4 km4 kc4) := (hbel.cell (p := ⟨bb2, o2 + j * 7 + 6, none⟩) (by show bb2 < w3.heap.size; have := HHT.out _ hSb2; omega)).trans (hcc2 6 (by omega))
                      have p5 : wr.drew.cell? ⟨w.heap.size, 5, none⟩ = some (.slice (some ⟨bb1, o1, none⟩) lm1 lc1) := x5
                      have r5 : wr.drew.cell? ⟨w.heap.size + 1, 5, none⟩ = some (.slice (some ⟨bb2, o2, none⟩) lm1 lc2) := y5
                      have hwr : Below w.heap.size w wr.drew := (hw3.trans (hbel.mono (by omega))).drew
                      have HC := (HLI.out z1 (List.mem_of_getElem? hz1)) z2 S S' _ _ wr.drew (hv1.keep fun p hp => hbel.cell (by have := HHS.out _ hp; omega)) (hv2.keep fun p hp => hbel.cell (by have := HHT.out _ hp; omega)) (fun b hb => Nat.lt_of_lt_of_le (HHS.out b hb) hwr.size) (fun b hb => Nat.lt_of_lt_of_le (HHT.out b hb) hwr.size)
                      obtain ⟨E, hE⟩ : ∃ E, sameV z1 z2 = E := ⟨_, rfl⟩
                      rw [hE] at HC
                      have HE := Lib.hid hE
                      have HZ1 := Lib.hid hz1
                      have HZ2 := Lib.hid hz2
                      have HBEL := Lib.hid hbel
                      have HWR := Lib.hid hwr
                      clear hE hz1 hz2 hv1 hv2 hcc1 hcc2 hbel hwr
                      go_upto_region 11 with fail
                      refine wp_region_held_drew (S := fun w' => w'.cell? ⟨w.heap.size, 5, none⟩ = some (.slice (some ⟨bb1, o1, none⟩) lm1 lc1) ∧ w'.cell? ⟨w.heap.size + 1, 5, none⟩ = some (.slice (some ⟨bb2, o2, none⟩) lm1 lc2) ∧ w'.cell? ⟨bb1, o1 + j * 7, none⟩ = some (.int .i64 k3) ∧ w'.cell? ⟨bb1, o1 + j * 7 + 1, none⟩ = some (.bool n3) ∧ w'.cell? ⟨bb1, o1 + j * 7 + 2, none⟩ = some (.slice A3 m3 c3) ∧ w'.cell? ⟨bb1, o1 + j * 7 + 3, none⟩ = some (.int .i64 e3) ∧ w'.cell? ⟨bb1, o1 + j * 7 + 4, none⟩ = some (.string t3) ∧ w'.cell? ⟨bb1, o1 + j * 7 + 5, none⟩ = some (.slice LA3 lm3 lc3) ∧ w'.cell? ⟨bb1, o1 + j * 7 + 6, none⟩ = some (.slice KA3 km3 kc3) ∧ w'.cell? ⟨bb2, o2 + j * 7, none⟩ = some (.int .i64 k4) ∧ w'.cell? ⟨bb2, o2 + j * 7 + 1, none⟩ = some (.bool n4) ∧ w'.cell? ⟨bb2, o2 + j * 7 + 2, none⟩ = some (.slice A4 m4 c4) ∧ w'.cell? ⟨bb2, o2 + j * 7 + 3, none⟩ = some (.int .i64 e4) ∧ w'.cell? ⟨bb2, o2 + j * 7 + 4, none⟩ = some (.string t4) ∧ w'.cell? ⟨bb2, o2 + j * 7 + 5, none⟩ = some (.slice LA4 lm4 lc4) ∧ w'.cell? ⟨bb2, o2 + j * 7 + 6, none⟩ = some (.slice KA4 km4 kc4)) (by kernel_rfl) ⟨p5, r5, d0, d1, d2, d3, d4, d5, d6, f0, f1, f2, f3, f4, f5, f6⟩ (fun hHeld => ?_)
                      (try simp only [List.size_toArray, List.length_cons, List.length_nil, Nat.reduceAdd, Array.replicate_succ, Array.replicate_zero, List.push_toArray, List.append_toArray, List.nil_append, List.cons_append])
                      refine wpAnyH_take (i := 0) (oi := ⟨_, _, _, _, _, _⟩) (v := ?_) rfl (by kernel_rfl) (by kernel_rfl) (by kernel_rfl) (fun _ _ _ h => h) (Or.inl ⟨by rfl, ?_⟩) (by assumption) ?_
                      rotate_left
                      · intro w hSw
                        (try dsimp only at hSw)
                        go_split_ands
                        go_simp
                        try with_reducible rfl
                      try simp only [Act.put, List.setIfInBounds_toArray, List.set_cons_zero, List.set_cons_succ]
                      refine wpAnyH_take (i := 1) (oi := ⟨_, _, _, _, _, _⟩) (v := ?_) rfl (by kernel_rfl) (by kernel_rfl) (by kernel_rfl) (fun _ _ _ h => h) (Or.inl ⟨by rfl, ?_⟩) (by assumption) ?_
                      rotate_left
                      · intro w hSw
                        (try dsimp only at hSw)
                        go_split_ands
                        go_simp
                        try with_reducible rfl
                      try simp only [Act.put, List.setIfInBounds_toArray, List.set_cons_zero, List.set_cons_succ]
                      refine wpAnyH_take (i := 2) (oi := ⟨_, _, _, _, _, _⟩) (v := ?_) rfl (by kernel_rfl) (by kernel_rfl) (by kernel_rfl) (fun _ _ _ h => h) (Or.inl ⟨by rfl, ?_⟩) (by assumption) ?_
                      rotate_left
                      · intro w hSw
                        (try dsimp only at hSw)
                        go_split_ands
                        go_simp
                        try with_reducible rfl
                      try simp only [Act.put, List.setIfInBounds_toArray, List.set_cons_zero, List.set_cons_succ]
                      refine wpAnyH_take (i := 3) (oi := ⟨_, _, _, _, _, _⟩) (v := ?_) rfl (by kernel_rfl) (by kernel_rfl) (by kernel_rfl) (fun _ _ _ h => h) (Or.inl ⟨by rfl, ?_⟩) (by assumption) ?_
                      rotate_left
                      · intro w hSw
                        (try dsimp only at hSw)
                        go_split_ands
                        go_simp
                        try with_reducible rfl
                      try simp only [Act.put, List.setIfInBounds_toArray, List.set_cons_zero, List.set_cons_succ]
                      refine wpAnyH_take (i := 4) (oi := ⟨_, _, _, _, _, _⟩) (v := ?_) rfl (by kernel_rfl) (by kernel_rfl) (by kernel_rfl) (fun _ _ _ h => h) (Or.inl ⟨by rfl, ?_⟩) (by assumption) ?_
                      rotate_left
                      · intro w hSw
                        (try dsimp only at hSw)
                        go_split_ands
                        go_simp
                        try with_reducible rfl
                      try simp only [Act.put, List.setIfInBounds_toArray, List.set_cons_zero, List.set_cons_succ]
                      refine wpAnyH_take (i := 5) (oi := ⟨_, _, _, _, _, _⟩) (v := ?_) rfl (by kernel_rfl) (by kernel_rfl) (by kernel_rfl) (fun _ _ _ h => h) (Or.inl ⟨by rfl, ?_⟩) (by assumption) ?_
                      rotate_left
                      · intro w hSw
                        (try dsimp only at hSw)
                        go_split_ands
                        go_simp
                        try with_reducible rfl
                      try simp only [Act.put, List.setIfInBounds_toArray, List.set_cons_zero, List.set_cons_succ]
                      refine wpAnyH_take (i := 6) (oi := ⟨_, _, _, _, _, _⟩) (v := ?_) rfl (by kernel_rfl) (by kernel_rfl) (by kernel_rfl) (fun _ _ _ h => h) (Or.inl ⟨by rfl, ?_⟩) (by assumption) ?_
                      rotate_left
                      · intro w hSw
                        (try dsimp only at hSw)
                        go_split_ands
                        go_simp
                        try with_reducible rfl
                      try simp only [Act.put, List.setIfInBounds_toArray, List.set_cons_zero, List.set_cons_succ]
                      refine wpAnyH_take (i := 7) (oi := ⟨_, _, _, _, _, _⟩) (v := ?_) rfl (by kernel_rfl) (by kernel_rfl) (by kernel_rfl) (fun _ _ _ h => h) (Or.inl ⟨by rfl, ?_⟩) (by assumption) ?_
                      rotate_left
                      · intro w hSw
                        (try dsimp only at hSw)
                        go_split_ands
                        go_simp
                        try with_reducible rfl
                      try simp only [Act.put, List.setIfInBounds_toArray, List.set_cons_zero, List.set_cons_succ]
                      refine wpAnyH_take (i := 8) (oi := ⟨_, _, _, _, _, _⟩) (v := ?_) rfl (by kernel_rfl) (by kernel_rfl) (by kernel_rfl) (fun _ _ _ h => h) (Or.inl ⟨by rfl, ?_⟩) (by assumption) ?_
                      rotate_left
                      · intro w hSw
                        (try dsimp only at hSw)
                        go_split_ands
                        go_simp
                        try with_reducible rfl
                      try simp only [Act.put, List.setIfInBounds_toArray, List.set_cons_zero, List.set_cons_succ]
                      refine wpAnyH_take (i := 9) (oi := ⟨_, _, _, _, _, _⟩) (v := ?_) rfl (by kernel_rfl) (by kernel_rfl) (by kernel_rfl) (fun _ _ _ h => h) (Or.inl ⟨by rfl, ?_⟩) (by assumption) ?_
                      rotate_left
                      · intro w hSw
                        (try dsimp only at hSw)
                        go_split_ands
                        go_simp
                        try with_reducible rfl
                      try simp only [Act.put, List.setIfInBounds_toArray, List.set_cons_zero, List.set_cons_succ]
                      refine wpAnyH_ready (rs := [10]) (by kernel_rfl) (by simp) (AllReadyH.cons (o := ⟨_, _, _, _, _, _⟩) rfl (fun K hK => ?_) AllReadyH.nil)
                      go_simp
                      refine HC.mono ?_
                      rintro e' w6 ⟨rfl, hb6⟩
                      (try dsimp only)
                      have hbb : ∀ p : Addr, p.block < wr.drew.heap.size → w6.cell? p = wr.drew.cell? p := fun p hp => hb6.cell hp
                      have hq1 : w.heap.size + 2 ≤ wr.drew.heap.size := by have := hzr; show w.heap.size + 2 ≤ wr.heap.size; omega
                      have hq2 : bb1 < wr.drew.heap.size := by have := HHS.out _ hSb1; omega
                      have hq3 : bb2 < wr.drew.heap.size := by have := HHT.out _ hSb2; omega
                      refine hK.out _ _ ⟨(hbb ⟨w.heap.size, 5, none⟩ (by show w.heap.size < wr.drew.heap.size; omega)).trans p5, (hbb ⟨w.heap.size + 1, 5, none⟩ (by show w.heap.size + 1 < wr.drew.heap.size; omega)).trans r5, (hbb ⟨bb1, o1 + j * 7, none⟩ hq2).trans d0, (hbb ⟨bb1, o1 + j * 7 + 1, none⟩ hq2).trans d1, (hbb ⟨bb1, o1 + j * 7 + 2, none⟩ hq2).trans d2, (hbb ⟨bb1, o1 + j * 7 + 3, none⟩ hq2).trans d3, (hbb ⟨bb1, o1 + j * 7 + 4, none⟩ hq2).trans d4, (hbb ⟨bb1, o1 + j * 7 + 5, none⟩ hq2).trans d5, (hbb ⟨bb1, o1 + j * 7 + 6, none⟩ hq2).trans d6, (hbb ⟨bb2, o2 + j * 7, none⟩ hq3).trans f0, (hbb ⟨bb2, o2 + j * 7 + 1, none⟩ hq3).trans f1, (hbb ⟨bb2, o2 + j * 7 + 2, none⟩ hq3).trans f2, (hbb ⟨bb2, o2 + j * 7 + 3, none⟩ hq3).trans f3, (hbb ⟨bb2, o2 + j * 7 + 4, none⟩ hq3).trans f4, (hbb ⟨bb2, o2 + j * 7 + 5, none⟩ hq3).trans f5, (hbb ⟨bb2, o2 + j * 7 + 6, none⟩ hq3).trans f6⟩ (fun hHeld2 => ?_)
                      clear hK K
                      try simp only [Act.put, List.setIfInBounds_toArray, List.set_cons_zero, List.set_cons_succ]
                      refine wpAnyH_take (i := 11) (oi := ⟨_, _, _, _, _, _⟩) (v := ?_) rfl (by kernel_rfl) (by kernel_rfl) (by kernel_rfl) (fun _ _ _ h => h) (Or.inl ⟨by rfl, ?_⟩) (by assumption) ?_
                      rotate_left
                      · intro w hSw
                        (try dsimp only at hSw)
                        go_split_ands
                        go_simp
                        try with_reducible rfl
                      try simp only [Act.put, List.setIfInBounds_toArray, List.set_cons_zero, List.set_cons_succ]
                      refine wpAnyH_done (by kernel_rfl) ?_ _
                      have hb7 : Below w3.heap.size w3 w6 := (HBEL.out.drew).trans (hb6.mono (by have := hzr; show w3.heap.size ≤ wr.heap.size; omega))
                      clear hHeld hHeld2 hbb hb6
                      cases E
                      · go_wp2_with fail
                        go_ret
                        refine ⟨?_, hw3.trans (hb7.mono (by omega))⟩
                        rw [← HR.out, sameV_no (fun h => by
                          have h1 := (mk_eq.1 h).2.2.2.1
                          have h2 := HZ1.out
                          rw [h1, HZ2.out] at h2
                          injection h2 with h2
                          have h3 := HE.out
                          rw [sameV_iff.2 h2.symm] at h3
                          exact absurd h3 (by decide))]; rfl
                      · go_wp2_with fail
                        refine ⟨⟨j + 1, by omega, by go_num, ?_, hb7⟩, by simp [RowKit.intOf]; omega⟩
                        intro i a b hi ha hb
                        by_cases hij : i = j
                        · subst hij
                          rw [HZ1.out] at ha; rw [HZ2.out] at hb
                          injection ha with ha; injection hb with hb
                          rw [← ha, ← hb]; exact sameV_iff.1 HE.out
                        · exact HTO.out i a b (by omega) ha hb
                    · have hge : ¬ (j : Int) < (lm1 : Int) := by omega
                      have HLQ : Hid (l1 = l2) := eq_of_to (by omega) (by omega : l1.length ≤ j) HTO.out
                      have hP1 := HP.out
                      rw [decide_eq_true_eq] at hP1
                      have hfin : Hid (R = true) := by
                        show _ = _
                        rw [← HR.out, sameV_iff, mk_eq]
                        exact ⟨rfl, hP1, HT.out.1 (by simp), HLQ.out, HEQ.out⟩
                      have hbf := hw3.trans (hbel.mono (by omega))
                      clear hP1 hbel
                      go_wp2_with fail
                      go_ret
                      refine ⟨?_, hbf⟩
                      rw [hfin.out]; rfl
            · have hkn2 : ((km1 : Int) == (km2 : Int)) = false := by rw [beq_eq_false_iff_ne]; omega
              go_wp2_with fail
              go_ret
              refine ⟨?_, hw3⟩
              rw [← HR.out, sameV_no (fun h => by have := congrArg List.length (mk_eq.1 h).2.2.2.2; omega)]; rfl
          · have hln2 : ((lm1 : Int) == (lm2 : Int)) = false := by rw [beq_eq_false_iff_ne]; omega
            go_wp2_with fail
            go_ret
            refine ⟨?_, hw3⟩
            rw [← HR.out, sameV_no (fun h => by have := congrArg List.length (mk_eq.1 h).2.2.2.1; omega)]; rfl
    · have hkb : (k1 == k2) = false := by rw [beq_eq_false_iff_ne]; exact hk
      have HK : Hid (¬ k1 = k2) := hk
      go_wp2_with fail
      all_goals
        go_ret
        refine ⟨?_, hW⟩
        rw [← HR.out, sameV_no (fun h => HK.out (mk_eq.1 h).1)]; rfl
theorem same_c (x : VT) : Sames x := same_n _ x (Nat.lt_succ_self _)
end Go.Proofs.YtpmdcahomkdfmaaGreatDoor
