/-
  Contracts of the reference's Number and the law's num.
  The page's example of order, as the law asks it.
-/
import Derived.Test.YtjjpagdnjafgaaaGreatDoorGOen
import Derived.Test.YtjjpagdnjafgaaaGreatDoorGDrin
import Derived.Test.YtjjpagdnjafgaaaGreatDoorGVsame
set_option linter.unusedVariables false
set_option linter.unusedSimpArgs false
namespace Go.Proofs.YtjjpagdnjafgaaaGreatDoor
open Go.RowKit

set_option maxRecDepth 100000 in
set_option maxHeartbeats 4000000 in
theorem rnum_c (w : World) (z : Int) (h1 : -9223372036854775808 ≤ z) (h2 : z ≤ 9223372036854775807) (hl : (stZ z.natAbs 0).length ≤ 35184372088832) :
    Calls Tryz.prog 88 #[.int .i64 z] w fun e' w' => ∃ cs', e' = .returned (.agg cs'.toArray) ∧ VIn w' (Own' w.heap.size w') (.mk 3 (stN (decide (z < 0)) z.natAbs 0) (stZ z.natAbs 0) (stX z.natAbs 0) ⟨#[]⟩ [] []) cs' ∧ Below w.heap.size w w' := by
  have hW : Below w.heap.size w (w.alloc (.cells #[.int .i64 0, .bool false, .slice none 0 0, .int .i64 0, .string ⟨#[]⟩, .slice none 0 0, .slice none 0 0] 53)) := (Below.refl _ w).alloc (Nat.le_refl _) _
  have hm2 := World.alloc_heap_new w (.cells #[.int .i64 0, .bool false, .slice none 0 0, .int .i64 0, .string ⟨#[]⟩, .slice none 0 0, .slice none 0 0] 53)
  have hz : (w.alloc (.cells #[.int .i64 0, .bool false, .slice none 0 0, .int .i64 0, .string ⟨#[]⟩, .slice none 0 0, .slice none 0 0] 53)).heap.size = w.heap.size + 1 := by simp
  go_enter Tryz.func88, Tryz.ntmps88
  go_upto_region 1 with fail
  generalize (w.alloc (.cells #[.int .i64 0, .bool false, .slice none 0 0, .int .i64 0, .string ⟨#[]⟩, .slice none 0 0, .slice none 0 0] 53)) = W0 at *
  have HC := RInt_c z W0 h1 h2
  have HM2 := Lib.hid hm2
  have HW := Lib.hid hW
  clear hm2 hW
  unfold dv at HC
  go_wp2_with fail
  refine HC.mono ?_
  rintro e' w1 ⟨A, n, c, rfl, hres, hb1⟩
  clear HC
  have hv : VIn w1 (Own' W0.heap.size w1) (.mk 3 (stN (decide (z < 0)) z.natAbs 0) (stZ z.natAbs 0) (stX z.natAbs 0) ⟨#[]⟩ [] []) [.int .i64 3, .bool (stN (decide (z < 0)) z.natAbs 0), .slice A n c, .int .i64 (stX z.natAbs 0), .string ⟨#[]⟩, .slice none 0 0, .slice none 0 0] :=
    .mk (cs := fun _ => []) hres.rd (by rw [← hres.len]; exact hl) (by decide) ⟨rfl, fun h0 => absurd h0 (by omega)⟩ (by omega) rfl (by omega) (Nat.le_refl _) (fun h0 => absurd h0 (by omega)) (fun i x hi => by simp at hi)
  have HRES := Lib.hid hres
  clear hres
  have hmz := (hb1.block _ (by omega)).trans HM2.out
  obtain ⟨z0, z1, z2, z3, z4, z5, z6⟩ := box7_of hmz
  have fz : ∀ j, w1.frozen? ⟨w.heap.size, j, none⟩ = false := fun j => frozen_of_row w1 _ j _ _ hmz
  have HV := Lib.hid hv
  clear hv hmz
  go_wp2_with fail
  refine bodyPost_ret (v := .agg #[.int .i64 3, .bool (stN (decide (z < 0)) z.natAbs 0), .slice A n c, .int .i64 (stX z.natAbs 0), .string ⟨#[]⟩, .slice none 0 0, .slice none 0 0]) (by simp [results, Tryz.results88, go_sem, z0, z1, z2, z3, z4, z5, z6]) rfl ?_
  refine ⟨[.int .i64 3, .bool (stN (decide (z < 0)) z.natAbs 0), .slice A n c, .int .i64 (stX z.natAbs 0), .string ⟨#[]⟩, .slice none 0 0, .slice none 0 0], rfl, ?_, below_seven (HW.out.trans (hb1.mono (by omega))) (by omega) _ _ _ _ _ _ _⟩
  refine (HV.out.keep fun p hp => ?_).more fun b hb => ⟨by have := hb.1; omega, ?_⟩
  · have h1 := hp.1
    exact cell_seven (by omega) _ _ _ _ _ _ _
  · have := hb.2
    simpa [World.setCell] using this

theorem lnum6_c (z : Int) (w : World) : Calls Tryz.prog 43 #[.int .i64 z] w fun e w' => e = .returned (.int .i64 z) ∧ w = w' := by
  go_enter Tryz.func43, Tryz.ntmps43
  go_wp2_with fail
  go_ret
  exact ⟨rfl, rfl⟩

/-- Number(z). -/
def numT (z : Int) : VT := .mk 3 (stN (decide (z < 0)) z.natAbs 0) (stZ z.natAbs 0) (stX z.natAbs 0) ⟨#[]⟩ [] []
def l312 : List VT := [numT 3, numT 1, numT 2]
theorem err312 : itemsE l312 l312 = 0 := by kernel_rfl
theorem first312 : bestAt lessF l312 3 = 1 := by kernel_rfl
theorem last312 : bestAt moreF l312 3 = 0 := by kernel_rfl
end Go.Proofs.YtjjpagdnjafgaaaGreatDoor

namespace Go.Proofs.YtjjpagdnjafgaaaGreatDoor
open Go.RowKit

theorem VIn.seven {w : World} {S : Nat → Prop} {x : VT} {cs : List Value} (h : VIn w S x cs) : ∃ k neg A n c e t LA ln lc KA kn kc, cs = [.int .i64 k, .bool neg, .slice A n c, .int .i64 e, .string t, .slice LA ln lc, .slice KA kn kc] := by
  cases h
  exact ⟨_, _, _, _, _, _, _, _, _, _, _, _, _, rfl⟩
theorem numLen (z : Int) (h : z = 1 ∨ z = 2 ∨ z = 3) : (stZ z.natAbs 0).length ≤ 35184372088832 := by
  have h1 : (stZ (1 : Int).natAbs 0).length = 1 := by kernel_rfl
  have h2 : (stZ (2 : Int).natAbs 0).length = 1 := by kernel_rfl
  have h3 : (stZ (3 : Int).natAbs 0).length = 1 := by kernel_rfl
  rcases h with rfl | rfl | rfl <;> omega
theorem num_c (z : Int) (h : z = 1 ∨ z = 2 ∨ z = 3) (w : World) : Calls Tryz.prog 88 #[.int .i64 z] w fun e' w' => ∃ cs', e' = .returned (.agg cs'.toArray) ∧ VIn w' (Own' w.heap.size w') (numT z) cs' ∧ Below w.heap.size w w' :=
  rnum_c w z (by omega) (by omega) (numLen z h)
theorem same11 : sameV (numT 1) (numT 1) = true := by kernel_rfl
theorem same33 : sameV (numT 3) (numT 3) = true := by kernel_rfl

set_option maxRecDepth 100000 in
set_option maxHeartbeats 4000000 in
theorem alive6_c (w : World) (hT : Tabs w) : Calls Tryz.prog 41 #[] w fun e w' => e = .returned (.bool true) ∧ Below w.heap.size w w' := by
  have HT := Lib.hid hT
  clear hT
  go_enter Tryz.func41, Tryz.ntmps41
  have HC1 := num_c 3 (by omega) w
  go_wp2_with fail
  refine HC1.mono ?_
  rintro e' w1 ⟨cs1, rfl, hv1, hb1⟩
  clear HC1
  have HC2 := num_c 1 (by omega) w1
  go_wp2_with fail
  refine HC2.mono ?_
  rintro e' w2 ⟨cs2, rfl, hv2, hb2⟩
  clear HC2
  have HC3 := num_c 2 (by omega) w2
  go_wp2_with fail
  refine HC3.mono ?_
  rintro e' w3 ⟨cs3, rfl, hv3, hb3⟩
  clear HC3
  have hb13 := (hb2.mono (Nat.le_refl _)).trans (hb3.mono hb2.size)
  have hb03 := hb1.trans (hb13.mono hb1.size)
  have hv1' : VIn w3 (fun b => b < w3.heap.size) (numT 3) cs1 := (hv1.keep fun p hp => hb13.cell hp.2).more fun b hb => Nat.lt_of_lt_of_le hb.2 hb13.size
  have hv2' : VIn w3 (fun b => b < w3.heap.size) (numT 1) cs2 := (hv2.keep fun p hp => hb3.cell hp.2).more fun b hb => Nat.lt_of_lt_of_le hb.2 hb3.size
  have hv3' : VIn w3 (fun b => b < w3.heap.size) (numT 2) cs3 := hv3.more fun b hb => hb.2
  obtain ⟨k1, n1, A1, m1, c1, e1, t1, LA1, lm1, lc1, KA1, km1, kc1, rfl⟩ := hv1'.seven
  obtain ⟨k2, n2, A2, m2, c2, e2, t2, LA2, lm2, lc2, KA2, km2, kc2, rfl⟩ := hv2'.seven
  obtain ⟨k3, n3, A3, m3, c3, e3, t3, LA3, lm3, lc3, KA3, km3, kc3, rfl⟩ := hv3'.seven
  have HV1 := Lib.hid hv1'
  have HV2 := Lib.hid hv2'
  have HV3 := Lib.hid hv3'
  have HB3 := Lib.hid hb03
  clear hv1 hv2 hv3 hv1' hv2' hv3' hb1 hb2 hb3 hb13 hb03
  go_wp2_with fail
  have hg := World.alloc_heap_new w3 (.cells #[.int .i64 k1, .bool n1, .slice A1 m1 c1, .int .i64 e1, .string t1, .slice LA1 lm1 lc1, .slice KA1 km1 kc1, .int .i64 k2, .bool n2, .slice A2 m2 c2, .int .i64 e2, .string t2, .slice LA2 lm2 lc2, .slice KA2 km2 kc2, .int .i64 k3, .bool n3, .slice A3 m3 c3, .int .i64 e3, .string t3, .slice LA3 lm3 lc3, .slice KA3 km3 kc3] 53)
  have hb4 : Below w3.heap.size w3 (w3.alloc (.cells #[.int .i64 k1, .bool n1, .slice A1 m1 c1, .int .i64 e1, .string t1, .slice LA1 lm1 lc1, .slice KA1 km1 kc1, .int .i64 k2, .bool n2, .slice A2 m2 c2, .int .i64 e2, .string t2, .slice LA2 lm2 lc2, .slice KA2 km2 kc2, .int .i64 k3, .bool n3, .slice A3 m3 c3, .int .i64 e3, .string t3, .slice LA3 lm3 lc3, .slice KA3 km3 kc3] 53)) := (Below.refl _ w3).alloc (Nat.le_refl _) _
  have hz4 : (w3.alloc (.cells #[.int .i64 k1, .bool n1, .slice A1 m1 c1, .int .i64 e1, .string t1, .slice LA1 lm1 lc1, .slice KA1 km1 kc1, .int .i64 k2, .bool n2, .slice A2 m2 c2, .int .i64 e2, .string t2, .slice LA2 lm2 lc2, .slice KA2 km2 kc2, .int .i64 k3, .bool n3, .slice A3 m3 c3, .int .i64 e3, .string t3, .slice LA3 lm3 lc3, .slice KA3 km3 kc3] 53)).heap.size = w3.heap.size + 1 := by simp
  generalize (w3.alloc (.cells #[.int .i64 k1, .bool n1, .slice A1 m1 c1, .int .i64 e1, .string t1, .slice LA1 lm1 lc1, .slice KA1 km1 kc1, .int .i64 k2, .bool n2, .slice A2 m2 c2, .int .i64 e2, .string t2, .slice LA2 lm2 lc2, .slice KA2 km2 kc2, .int .i64 k3, .bool n3, .slice A3 m3 c3, .int .i64 e3, .string t3, .slice LA3 lm3 lc3, .slice KA3 km3 kc3] 53)) = w4 at *
  have hRL : RdL w4 (fun b => b < w4.heap.size) (some ⟨w3.heap.size, 0, none⟩) 3 l312 := ⟨rfl, by omega, fun i => if i = 0 then [.int .i64 k1, .bool n1, .slice A1 m1 c1, .int .i64 e1, .string t1, .slice LA1 lm1 lc1, .slice KA1 km1 kc1] else if i = 1 then [.int .i64 k2, .bool n2, .slice A2 m2 c2, .int .i64 e2, .string t2, .slice LA2 lm2 lc2, .slice KA2 km2 kc2] else [.int .i64 k3, .bool n3, .slice A3 m3 c3, .int .i64 e3, .string t3, .slice LA3 lm3 lc3, .slice KA3 km3 kc3], fun _ => ⟨_, 0, rfl, (by show w3.heap.size < w4.heap.size; omega), fun i hi => by
      match i, hi with
      | 0, _ => exact ⟨rfl, fun t ht => by
        match t, ht with
        | 0, _ => exact cell_at hg rfl
        | 1, _ => exact cell_at hg rfl
        | 2, _ => exact cell_at hg rfl
        | 3, _ => exact cell_at hg rfl
        | 4, _ => exact cell_at hg rfl
        | 5, _ => exact cell_at hg rfl
        | 6, _ => exact cell_at hg rfl⟩
      | 1, _ => exact ⟨rfl, fun t ht => by
        match t, ht with
        | 0, _ => exact cell_at hg rfl
        | 1, _ => exact cell_at hg rfl
        | 2, _ => exact cell_at hg rfl
        | 3, _ => exact cell_at hg rfl
        | 4, _ => exact cell_at hg rfl
        | 5, _ => exact cell_at hg rfl
        | 6, _ => exact cell_at hg rfl⟩
      | 2, _ => exact ⟨rfl, fun t ht => by
        match t, ht with
        | 0, _ => exact cell_at hg rfl
        | 1, _ => exact cell_at hg rfl
        | 2, _ => exact cell_at hg rfl
        | 3, _ => exact cell_at hg rfl
        | 4, _ => exact cell_at hg rfl
        | 5, _ => exact cell_at hg rfl
        | 6, _ => exact cell_at hg rfl⟩⟩, fun i x hi => by
      match i, hi with
      | 0, hi => injection hi with hi; subst hi; exact (HV1.out.keep fun p hp => hb4.cell hp).more fun b hb => Nat.lt_of_lt_of_le hb hb4.size
      | 1, hi => injection hi with hi; subst hi; exact (HV2.out.keep fun p hp => hb4.cell hp).more fun b hb => Nat.lt_of_lt_of_le hb hb4.size
      | 2, hi => injection hi with hi; subst hi; exact (HV3.out.keep fun p hp => hb4.cell hp).more fun b hb => Nat.lt_of_lt_of_le hb hb4.size⟩
  have HB4 := Lib.hid (HB3.out.trans (hb4.mono HB3.out.size))
  have HC4 := sort_c (c := 3) w4 (HT.out.below HB4.out) hRL (fun b h => h) (by have : underL l312 = 3 := by rfl
                                                                               omega)
  rw [err312] at HC4
  clear hg hb4 hz4 hRL
  refine HC4.mono ?_
  rintro e' w5 ⟨hb5, (⟨h0, -⟩ | ⟨-, LA, lc, ps, rfl, hpl, hlc, hr⟩)⟩
  · exact absurd rfl h0
  have h1 := first_placed hpl (by decide)
  have h2 := last_placed hpl (by decide)
  have e1' : bestAt lessF l312 l312.length = 1 := first312
  have e2' : bestAt moreF l312 l312.length = 0 := last312
  rw [e1'] at h1
  rw [e2'] at h2
  have hx1 := pickV_at (l := l312) (x := numT 1) h1 rfl
  have hx2 := pickV_at (l := l312) (x := numT 3) h2 rfl
  obtain ⟨b, off, x, cs, rfl, hS1, hx, h71, hc1, hv1⟩ := hr.at_ (i := 0) (by omega)
  rw [hx1] at hx
  injection hx with hx
  subst hx
  obtain ⟨b', off', x, ds, hA2, -, hx, h72, hc2, hv2⟩ := hr.at_ (i := 2) (by omega)
  injection hA2 with hA2
  injection hA2 with hA3 hA4
  subst hA3
  subst hA4
  have hx2' : (pickV l312 ps)[2]? = some (numT 3) := hx2
  rw [hx2'] at hx
  injection hx with hx
  subst hx
  obtain ⟨k4, n4, A4, m4, c4, e4, t4, LA4, lm4, lc4, KA4, km4, kc4, rfl⟩ := hv1.seven
  obtain ⟨k5, n5, A5, m5, c5, e5, t5, LA5, lm5, lc5, KA5, km5, kc5, rfl⟩ := hv2.seven
  have HV4 := Lib.hid hv1
  have HV5 := Lib.hid hv2
  have HB5 := Lib.hid (HB4.out.trans (hb5.mono HB4.out.size))
  have hbs : b < w5.heap.size := hS1.2
  have hSS : ∀ W, Below w5.heap.size w5 W → W.cell? ⟨b, off, none⟩ = some (.int .i64 k4) ∧ W.cell? ⟨b, off + 1, none⟩ = some (.bool n4) ∧ W.cell? ⟨b, off + 2, none⟩ = some (.slice A4 m4 c4) ∧ W.cell? ⟨b, off + 3, none⟩ = some (.int .i64 e4) ∧ W.cell? ⟨b, off + 4, none⟩ = some (.string t4) ∧ W.cell? ⟨b, off + 5, none⟩ = some (.slice LA4 lm4 lc4) ∧ W.cell? ⟨b, off + 6, none⟩ = some (.slice KA4 km4 kc4) ∧ W.cell? ⟨b, off + 14, none⟩ = some (.int .i64 k5) ∧ W.cell? ⟨b, off + 15, none⟩ = some (.bool n5) ∧ W.cell? ⟨b, off + 16, none⟩ = some (.slice A5 m5 c5) ∧ W.cell? ⟨b, off + 17, none⟩ = some (.int .i64 e5) ∧ W.cell? ⟨b, off + 18, none⟩ = some (.string t5) ∧ W.cell? ⟨b, off + 19, none⟩ = some (.slice LA5 lm5 lc5) ∧ W.cell? ⟨b, off + 20, none⟩ = some (.slice KA5 km5 kc5) := fun W hW => ⟨(hW.cell (p := ⟨b, off, none⟩) hbs).trans (hc1 0 (by omega)), (hW.cell (p := ⟨b, off + (0 * 7 + 1), none⟩) hbs).trans (hc1 1 (by omega)), (hW.cell (p := ⟨b, off + (0 * 7 + 2), none⟩) hbs).trans (hc1 2 (by omega)), (hW.cell (p := ⟨b, off + (0 * 7 + 3), none⟩) hbs).trans (hc1 3 (by omega)), (hW.cell (p := ⟨b, off + (0 * 7 + 4), none⟩) hbs).trans (hc1 4 (by omega)), (hW.cell (p := ⟨b, off + (0 * 7 + 5), none⟩) hbs).trans (hc1 5 (by omega)), (hW.cell (p := ⟨b, off + (0 * 7 + 6), none⟩) hbs).trans (hc1 6 (by omega)), (hW.cell (p := ⟨b, off + (2 * 7 + 0), none⟩) hbs).trans (hc2 0 (by omega)), (hW.cell (p := ⟨b, off + (2 * 7 + 1), none⟩) hbs).trans (hc2 1 (by omega)), (hW.cell (p := ⟨b, off + (2 * 7 + 2), none⟩) hbs).trans (hc2 2 (by omega)), (hW.cell (p := ⟨b, off + (2 * 7 + 3), none⟩) hbs).trans (hc2 3 (by omega)), (hW.cell (p := ⟨b, off + (2 * 7 + 4), none⟩) hbs).trans (hc2 4 (by omega)), (hW.cell (p := ⟨b, off + (2 * 7 + 5), none⟩) hbs).trans (hc2 5 (by omega)), (hW.cell (p := ⟨b, off + (2 * 7 + 6), none⟩) hbs).trans (hc2 6 (by omega))⟩
  have HSS := Lib.hid hSS
  clear hSS hc1 hc2 hv1 hv2 hb5 hr hpl h1 h2 e1' e2' hx1 hx2 hx2' h71 h72 HC4
  go_upto_region 2 with fail
  refine wp_region_held_drew (S := fun w' => w'.cell? ⟨b, off, none⟩ = some (.int .i64 k4) ∧ w'.cell? ⟨b, off + 1, none⟩ = some (.bool n4) ∧ w'.cell? ⟨b, off + 2, none⟩ = some (.slice A4 m4 c4) ∧ w'.cell? ⟨b, off + 3, none⟩ = some (.int .i64 e4) ∧ w'.cell? ⟨b, off + 4, none⟩ = some (.string t4) ∧ w'.cell? ⟨b, off + 5, none⟩ = some (.slice LA4 lm4 lc4) ∧ w'.cell? ⟨b, off + 6, none⟩ = some (.slice KA4 km4 kc4) ∧ w'.cell? ⟨b, off + 14, none⟩ = some (.int .i64 k5) ∧ w'.cell? ⟨b, off + 15, none⟩ = some (.bool n5) ∧ w'.cell? ⟨b, off + 16, none⟩ = some (.slice A5 m5 c5) ∧ w'.cell? ⟨b, off + 17, none⟩ = some (.int .i64 e5) ∧ w'.cell? ⟨b, off + 18, none⟩ = some (.string t5) ∧ w'.cell? ⟨b, off + 19, none⟩ = some (.slice LA5 lm5 lc5) ∧ w'.cell? ⟨b, off + 20, none⟩ = some (.slice KA5 km5 kc5)) (by kernel_rfl) (HSS.out _ (Below.refl _ _).drew) (fun hHeld => ?_)
  (try simp only [List.size_toArray, List.length_cons, List.length_nil, Nat.reduceAdd, Array.replicate_succ, Array.replicate_zero, List.push_toArray, List.append_toArray, List.nil_append, List.cons_append])
  refine wpAnyH_take (i := 0) (oi := ⟨_, _, _, _, _, _⟩) (v := ?_) rfl (by kernel_rfl) (by kernel_rfl) (by kernel_rfl) (fun _ _ _ h => h) (Or.inl ⟨by rfl, ?_⟩) (by assumption) ?_
  rotate_left
  · intro w hSw
    (try dsimp only at hSw)
    go_split_ands
    go_simp
    try with_reducible rfl
  try simp only [Act.put, List.setIfInBounds_toArray, List.set_cons_zero, List.set_cons_succ]
  refine wpAnyH_ready (rs := [1]) (by kernel_rfl) (by simp) (AllReadyH.cons (o := ⟨_, _, _, _, _, _⟩) rfl (fun K hK => ?_) AllReadyH.nil)
  go_simp
  refine (lnum6_c _ _).mono ?_
  rintro e' w' ⟨rfl, rfl⟩
  (try dsimp only)
  refine hK.out _ _ (HSS.out _ (Below.refl _ _).drew) (fun hHeld2 => ?_)
  clear hK K hHeld
  try simp only [Act.put, List.setIfInBounds_toArray, List.set_cons_zero, List.set_cons_succ]
  refine wpAnyH_take (i := 2) (oi := ⟨_, _, _, _, _, _⟩) (v := ?_) rfl (by kernel_rfl) (by kernel_rfl) (by kernel_rfl) (fun _ _ _ h => h) (Or.inl ⟨by rfl, ?_⟩) (by assumption) ?_
  rotate_left
  · intro w hSw
    (try dsimp only at hSw)
    go_split_ands
    go_simp
    try with_reducible rfl
  try simp only [Act.put, List.setIfInBounds_toArray, List.set_cons_zero, List.set_cons_succ]
  refine wpAnyH_take (i := 3) (oi := ⟨_, _, _, _, _, _⟩) (v := ?_) rfl (by kernel_rfl) (by kernel_rfl) (by kernel_rfl) (fun _ _ _ h => h) (Or.inl ⟨by rfl, ?_⟩) (by assumption) ?_
  rotate_left
  · intro w hSw
    (try dsimp only at hSw)
    go_split_ands
    go_simp
    try with_reducible rfl
  try simp only [Act.put, List.setIfInBounds_toArray, List.set_cons_zero, List.set_cons_succ]
  refine wpAnyH_take (i := 4) (oi := ⟨_, _, _, _, _, _⟩) (v := ?_) rfl (by kernel_rfl) (by kernel_rfl) (by kernel_rfl) (fun _ _ _ h => h) (Or.inl ⟨by rfl, ?_⟩) (by assumption) ?_
  rotate_left
  · intro w hSw
    (try dsimp only at hSw)
    go_split_ands
    go_simp
    try with_reducible rfl
  try simp only [Act.put, List.setIfInBounds_toArray, List.set_cons_zero, List.set_cons_succ]
  refine wpAnyH_take (i := 5) (oi := ⟨_, _, _, _, _, _⟩) (v := ?_) rfl (by kernel_rfl) (by kernel_rfl) (by kernel_rfl) (fun _ _ _ h => h) (Or.inl ⟨by rfl, ?_⟩) (by assumption) ?_
  rotate_left
  · intro w hSw
    (try dsimp only at hSw)
    go_split_ands
    go_simp
    try with_reducible rfl
  try simp only [Act.put, List.setIfInBounds_toArray, List.set_cons_zero, List.set_cons_succ]
  refine wpAnyH_take (i := 6) (oi := ⟨_, _, _, _, _, _⟩) (v := ?_) rfl (by kernel_rfl) (by kernel_rfl) (by kernel_rfl) (fun _ _ _ h => h) (Or.inl ⟨by rfl, ?_⟩) (by assumption) ?_
  rotate_left
  · intro w hSw
    (try dsimp only at hSw)
    go_split_ands
    go_simp
    try with_reducible rfl
  try simp only [Act.put, List.setIfInBounds_toArray, List.set_cons_zero, List.set_cons_succ]
  refine wpAnyH_take (i := 7) (oi := ⟨_, _, _, _, _, _⟩) (v := ?_) rfl (by kernel_rfl) (by kernel_rfl) (by kernel_rfl) (fun _ _ _ h => h) (Or.inl ⟨by rfl, ?_⟩) (by assumption) ?_
  rotate_left
  · intro w hSw
    (try dsimp only at hSw)
    go_split_ands
    go_simp
    try with_reducible rfl
  try simp only [Act.put, List.setIfInBounds_toArray, List.set_cons_zero, List.set_cons_succ]
  refine wpAnyH_take (i := 8) (oi := ⟨_, _, _, _, _, _⟩) (v := ?_) rfl (by kernel_rfl) (by kernel_rfl) (by kernel_rfl) (fun _ _ _ h => h) (Or.inl ⟨by rfl, ?_⟩) (by assumption) ?_
  rotate_left
  · intro w hSw
    (try dsimp only at hSw)
    go_split_ands
    go_simp
    try with_reducible rfl
  try simp only [Act.put, List.setIfInBounds_toArray, List.set_cons_zero, List.set_cons_succ]
  refine wpAnyH_take (i := 9) (oi := ⟨_, _, _, _, _, _⟩) (v := ?_) rfl (by kernel_rfl) (by kernel_rfl) (by kernel_rfl) (fun _ _ _ h => h) (Or.inl ⟨by rfl, ?_⟩) (by assumption) ?_
  rotate_left
  · intro w hSw
    (try dsimp only at hSw)
    go_split_ands
    go_simp
    try with_reducible rfl
  try simp only [Act.put, List.setIfInBounds_toArray, List.set_cons_zero, List.set_cons_succ]
  refine wpAnyH_take (i := 10) (oi := ⟨_, _, _, _, _, _⟩) (v := ?_) rfl (by kernel_rfl) (by kernel_rfl) (by kernel_rfl) (fun _ _ _ h => h) (Or.inl ⟨by rfl, ?_⟩) (by assumption) ?_
  rotate_left
  · intro w hSw
    (try dsimp only at hSw)
    go_split_ands
    go_simp
    try with_reducible rfl
  try simp only [Act.put, List.setIfInBounds_toArray, List.set_cons_zero, List.set_cons_succ]
  refine wpAnyH_take (i := 11) (oi := ⟨_, _, _, _, _, _⟩) (v := ?_) rfl (by kernel_rfl) (by kernel_rfl) (by kernel_rfl) (fun _ _ _ h => h) (Or.inl ⟨by rfl, ?_⟩) (by assumption) ?_
  rotate_left
  · intro w hSw
    (try dsimp only at hSw)
    go_split_ands
    go_simp
    try with_reducible rfl
  try simp only [Act.put, List.setIfInBounds_toArray, List.set_cons_zero, List.set_cons_succ]
  refine wpAnyH_ready (rs := [12]) (by kernel_rfl) (by simp) (AllReadyH.cons (o := ⟨_, _, _, _, _, _⟩) rfl (fun K hK => ?_) AllReadyH.nil)
  go_simp
  refine (num_c 1 (by omega) _).mono ?_
  rintro e' w6 ⟨cs6, rfl, hv6, hb6⟩
  have hb6' : Below w5.heap.size w5 w6 := (Below.refl _ w5).drew.trans (hb6.mono (by simp))
  (try dsimp only)
  refine hK.out _ _ (HSS.out _ hb6') (fun hHeld3 => ?_)
  clear hK K hHeld2
  try simp only [Act.put, List.setIfInBounds_toArray, List.set_cons_zero, List.set_cons_succ]
  refine wpAnyH_ready (rs := [13]) (by kernel_rfl) (by simp) (AllReadyH.cons (o := ⟨_, _, _, _, _, _⟩) rfl (fun K hK => ?_) AllReadyH.nil)
  go_simp
  have HS6 := same_c (numT 1) (numT 1) (fun b => b < w6.heap.size) (fun b => b < w6.heap.size) _ cs6 w6 ((HV4.out.keep fun p hp => hb6'.cell hp.2).more fun b hb => Nat.lt_of_lt_of_le hb.2 hb6'.size) (hv6.more fun b hb => hb.2) (fun b h => h) (fun b h => h)
  rw [same11] at HS6
  refine HS6.mono ?_
  rintro e' w7 ⟨rfl, hb7⟩
  have hb7' : Below w5.heap.size w5 w7 := hb6'.trans (hb7.mono hb6'.size)
  (try dsimp only)
  refine hK.out _ _ (HSS.out _ hb7') (fun hHeld4 => ?_)
  clear hK K hHeld3 HS6
  try simp only [Act.put, List.setIfInBounds_toArray, List.set_cons_zero, List.set_cons_succ]
  refine wpAnyH_take (i := 14) (oi := ⟨_, _, _, _, _, _⟩) (v := ?_) rfl (by kernel_rfl) (by kernel_rfl) (by kernel_rfl) (fun _ _ _ h => h) (Or.inl ⟨by rfl, ?_⟩) (by assumption) ?_
  rotate_left
  · intro w hSw
    (try dsimp only at hSw)
    go_split_ands
    go_simp
    try with_reducible rfl
  try simp only [Act.put, List.setIfInBounds_toArray, List.set_cons_zero, List.set_cons_succ]
  refine wpAnyH_take (i := 15) (oi := ⟨_, _, _, _, _, _⟩) (v := ?_) rfl (by kernel_rfl) (by kernel_rfl) (by kernel_rfl) (fun _ _ _ h => h) (Or.inl ⟨by rfl, ?_⟩) (by assumption) ?_
  rotate_left
  · intro w hSw
    (try dsimp only at hSw)
    go_split_ands
    go_simp
    try with_reducible rfl
  try simp only [Act.put, List.setIfInBounds_toArray, List.set_cons_zero, List.set_cons_succ]
  refine wpAnyH_take (i := 16) (oi := ⟨_, _, _, _, _, _⟩) (v := ?_) rfl (by kernel_rfl) (by kernel_rfl) (by kernel_rfl) (fun _ _ _ h => h) (Or.inl ⟨by rfl, ?_⟩) (by assumption) ?_
  rotate_left
  · intro w hSw
    (try dsimp only at hSw)
    go_split_ands
    go_simp
    try with_reducible rfl
  try simp only [Act.put, List.setIfInBounds_toArray, List.set_cons_zero, List.set_cons_succ]
  refine wpAnyH_take (i := 17) (oi := ⟨_, _, _, _, _, _⟩) (v := ?_) rfl (by kernel_rfl) (by kernel_rfl) (by kernel_rfl) (fun _ _ _ h => h) (Or.inl ⟨by rfl, ?_⟩) (by assumption) ?_
  rotate_left
  · intro w hSw
    (try dsimp only at hSw)
    go_split_ands
    go_simp
    try with_reducible rfl
  try simp only [Act.put, List.setIfInBounds_toArray, List.set_cons_zero, List.set_cons_succ]
  refine wpAnyH_take (i := 18) (oi := ⟨_, _, _, _, _, _⟩) (v := ?_) rfl (by kernel_rfl) (by kernel_rfl) (by kernel_rfl) (fun _ _ _ h => h) (Or.inl ⟨by rfl, ?_⟩) (by assumption) ?_
  rotate_left
  · intro w hSw
    (try dsimp only at hSw)
    go_split_ands
    go_simp
    try with_reducible rfl
  try simp only [Act.put, List.setIfInBounds_toArray, List.set_cons_zero, List.set_cons_succ]
  refine wpAnyH_ready (rs := [19]) (by kernel_rfl) (by simp) (AllReadyH.cons (o := ⟨_, _, _, _, _, _⟩) rfl (fun K hK => ?_) AllReadyH.nil)
  go_simp
  refine (num_c 3 (by omega) _).mono ?_
  rintro e' w8 ⟨cs8, rfl, hv8, hb8⟩
  have hb8' : Below w5.heap.size w5 w8 := hb7'.trans (hb8.mono hb7'.size)
  (try dsimp only)
  refine hK.out _ _ (HSS.out _ hb8') (fun hHeld5 => ?_)
  clear hK K hHeld4
  try simp only [Act.put, List.setIfInBounds_toArray, List.set_cons_zero, List.set_cons_succ]
  refine wpAnyH_ready (rs := [20]) (by kernel_rfl) (by simp) (AllReadyH.cons (o := ⟨_, _, _, _, _, _⟩) rfl (fun K hK => ?_) AllReadyH.nil)
  go_simp
  have HS8 := same_c (numT 3) (numT 3) (fun b => b < w8.heap.size) (fun b => b < w8.heap.size) _ cs8 w8 ((HV5.out.keep fun p hp => hb8'.cell hp.2).more fun b hb => Nat.lt_of_lt_of_le hb.2 hb8'.size) (hv8.more fun b hb => hb.2) (fun b h => h) (fun b h => h)
  rw [same33] at HS8
  refine HS8.mono ?_
  rintro e' w9 ⟨rfl, hb9⟩
  have hb9' : Below w5.heap.size w5 w9 := hb8'.trans (hb9.mono hb8'.size)
  (try dsimp only)
  refine hK.out _ _ (HSS.out _ hb9') (fun hHeld6 => ?_)
  clear hK K hHeld5 HS8
  try simp only [Act.put, List.setIfInBounds_toArray, List.set_cons_zero, List.set_cons_succ]
  refine wpAnyH_take (i := 21) (oi := ⟨_, _, _, _, _, _⟩) (v := ?_) rfl (by kernel_rfl) (by kernel_rfl) (by kernel_rfl) (fun _ _ _ h => h) (Or.inl ⟨by rfl, ?_⟩) (by assumption) ?_
  rotate_left
  · intro w hSw
    (try dsimp only at hSw)
    go_split_ands
    go_simp
    try with_reducible rfl
  try simp only [Act.put, List.setIfInBounds_toArray, List.set_cons_zero, List.set_cons_succ]
  refine wpAnyH_take (i := 22) (oi := ⟨_, _, _, _, _, _⟩) (v := ?_) rfl (by kernel_rfl) (by kernel_rfl) (by kernel_rfl) (fun _ _ _ h => h) (Or.inl ⟨by rfl, ?_⟩) (by assumption) ?_
  rotate_left
  · intro w hSw
    (try dsimp only at hSw)
    go_split_ands
    go_simp
    try with_reducible rfl
  try simp only [Act.put, List.setIfInBounds_toArray, List.set_cons_zero, List.set_cons_succ]
  refine wpAnyH_done (by kernel_rfl) ?_ _
  go_wp2_with fail
  go_ret
  exact ⟨rfl, HB5.out.trans (hb9'.mono HB5.out.size)⟩
end Go.Proofs.YtjjpagdnjafgaaaGreatDoor

namespace Go.Proofs.YtjjpagdnjafgaaaGreatDoor
open Go.RowKit

theorem sameV_self (x : VT) : sameV x x = true := sameV_iff.2 rfl

end Go.Proofs.YtjjpagdnjafgaaaGreatDoor
