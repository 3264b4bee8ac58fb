/-
  Contracts of the reference's Number and the law's num.
  The page's example of order, as the law asks it.
  The walk of bolterlaw06.OrderEnds.
  An argument that is a row of values, with a bound of its bulk.
-/
import Derived.Test.YtklpfgjnlheikaaGreatDoorOen
import Derived.Test.YtklpfgjnlheikaaGreatDoorDrin
import Derived.Test.YtklpfgjnlheikaaGreatDoorVsame
import Derived.Test.YtklpfgjnlheikaaGreatDoorVbulk
set_option linter.unusedVariables false
set_option linter.unusedSimpArgs false
namespace Go.Proofs.YtklpfgjnlheikaaGreatDoor
open Go.RowKit

set_option maxRecDepth 100000 in
set_option maxHeartbeats 4000000 in
theorem rnum_c (w : World) (z : Int) (h1 : -9223372036854775808 ≤ z) (h2 : z ≤ 9223372036854775807) (hl : (stZ z.natAbs 0).length ≤ 35184372088832) :
    Calls Tryz.prog 88 #[.int .i64 z] w fun e' w' => ∃ cs', e' = .returned (.agg cs'.toArray) ∧ VIn w' (Own' w.heap.size w') (.mk 3 (stN (decide (z < 0)) z.natAbs 0) (stZ z.natAbs 0) (stX z.natAbs 0) ⟨#[]⟩ [] []) cs' ∧ Below w.heap.size w w' := by
  have hW : Below w.heap.size w (w.alloc (.cells #[.int .i64 0, .bool false, .slice none 0 0, .int .i64 0, .string ⟨#[]⟩, .slice none 0 0, .slice none 0 0] 53)) := (Below.refl _ w).alloc (Nat.le_refl _) _
  have hm2 := World.alloc_heap_new w (.cells #[.int .i64 0, .bool false, .slice none 0 0, .int .i64 0, .string ⟨#[]⟩, .slice none 0 0, .slice none 0 0] 53)
  have hz : (w.alloc (.cells #[.int .i64 0, .bool false, .slice none 0 0, .int .i64 0, .string ⟨#[]⟩, .slice none 0 0, .slice none 0 0] 53)).heap.size = w.heap.size + 1 := by simp
  go_enter Tryz.func88, Tryz.ntmps88
  go_upto_region 1 with fail
  generalize (w.alloc (.cells #[.int .i64 0, .bool false, .slice none 0 0, .int .i64 0, .string ⟨#[]⟩, .slice none 0 0, .slice none 0 0] 53)) = W0 at *
  have HC := RInt_c z W0 h1 h2
  have HM2 := Lib.hid hm2
  have HW := Lib.hid hW
  clear hm2 hW
  unfold dv at HC
  go_wp2_with fail
  refine HC.mono ?_
  rintro e' w1 ⟨A, n, c, rfl, hres, hb1⟩
  clear HC
  have hv : VIn w1 (Own' W0.heap.size w1) (.mk 3 (stN (decide (z < 0)) z.natAbs 0) (stZ z.natAbs 0) (stX z.natAbs 0) ⟨#[]⟩ [] []) [.int .i64 3, .bool (stN (decide (z < 0)) z.natAbs 0), .slice A n c, .int .i64 (stX z.natAbs 0), .string ⟨#[]⟩, .slice none 0 0, .slice none 0 0] :=
    .mk (cs := fun _ => []) hres.rd (by rw [← hres.len]; exact hl) (by decide) ⟨rfl, fun h0 => absurd h0 (by omega)⟩ (by omega) rfl (by omega) (Nat.le_refl _) (fun h0 => absurd h0 (by omega)) (fun i x hi => by simp at hi)
  have HRES := Lib.hid hres
  clear hres
  have hmz := (hb1.block _ (by omega)).trans HM2.out
  obtain ⟨z0, z1, z2, z3, z4, z5, z6⟩ := box7_of hmz
  have fz : ∀ j, w1.frozen? ⟨w.heap.size, j, none⟩ = false := fun j => frozen_of_row w1 _ j _ _ hmz
  have HV := Lib.hid hv
  clear hv hmz
  go_wp2_with fail
  refine bodyPost_ret (v := .agg #[.int .i64 3, .bool (stN (decide (z < 0)) z.natAbs 0), .slice A n c, .int .i64 (stX z.natAbs 0), .string ⟨#[]⟩, .slice none 0 0, .slice none 0 0]) (by simp [results, Tryz.results88, go_sem, z0, z1, z2, z3, z4, z5, z6]) rfl ?_
  refine ⟨[.int .i64 3, .bool (stN (decide (z < 0)) z.natAbs 0), .slice A n c, .int .i64 (stX z.natAbs 0), .string ⟨#[]⟩, .slice none 0 0, .slice none 0 0], rfl, ?_, below_seven (HW.out.trans (hb1.mono (by omega))) (by omega) _ _ _ _ _ _ _⟩
  refine (HV.out.keep fun p hp => ?_).more fun b hb => ⟨by have := hb.1; omega, ?_⟩
  · have h1 := hp.1
    exact cell_seven (by omega) _ _ _ _ _ _ _
  · have := hb.2
    simpa [World.setCell] using this

theorem lnum6_c (z : Int) (w : World) : Calls Tryz.prog 43 #[.int .i64 z] w fun e w' => e = .returned (.int .i64 z) ∧ w = w' := by
  go_enter Tryz.func43, Tryz.ntmps43
  go_wp2_with fail
  go_ret
  exact ⟨rfl, rfl⟩

/-- Number(z). -/
def numT (z : Int) : VT := .mk 3 (stN (decide (z < 0)) z.natAbs 0) (stZ z.natAbs 0) (stX z.natAbs 0) ⟨#[]⟩ [] []
def l312 : List VT := [numT 3, numT 1, numT 2]
theorem err312 : itemsE l312 l312 = 0 := by kernel_rfl
theorem first312 : bestAt lessF l312 3 = 1 := by kernel_rfl
theorem last312 : bestAt moreF l312 3 = 0 := by kernel_rfl
end Go.Proofs.YtklpfgjnlheikaaGreatDoor

namespace Go.Proofs.YtklpfgjnlheikaaGreatDoor
open Go.RowKit

theorem VIn.seven {w : World} {S : Nat → Prop} {x : VT} {cs : List Value} (h : VIn w S x cs) : ∃ k neg A n c e t LA ln lc KA kn kc, cs = [.int .i64 k, .bool neg, .slice A n c, .int .i64 e, .string t, .slice LA ln lc, .slice KA kn kc] := by
  cases h
  exact ⟨_, _, _, _, _, _, _, _, _, _, _, _, _, rfl⟩
theorem numLen (z : Int) (h : z = 1 ∨ z = 2 ∨ z = 3) : (stZ z.natAbs 0).length ≤ 35184372088832 := by
  have h1 : (stZ (1 : Int).natAbs 0).length = 1 := by kernel_rfl
  have h2 : (stZ (2 : Int).natAbs 0).length = 1 := by kernel_rfl
  have h3 : (stZ (3 : Int).natAbs 0).length = 1 := by kernel_rfl
  rcases h with rfl | rfl | rfl <;> omega
theorem num_c (z : Int) (h : z = 1 ∨ z = 2 ∨ z = 3) (w : World) : Calls Tryz.prog 88 #[.int .i64 z] w fun e' w' => ∃ cs', e' = .returned (.agg cs'.toArray) ∧ VIn w' (Own' w.heap.size w') (numT z) cs' ∧ Below w.heap.size w w' :=
  rnum_c w z (by omega) (by omega) (numLen z h)
theorem same11 : sameV (numT 1) (numT 1) = true := by kernel_rfl
theorem same33 : sameV (numT 3) (numT 3) = true := by kernel_rfl

set_option maxRecDepth 100000 in
set_option maxHeartbeats 4000000 in
theorem alive6_c (w : World) (hT : Tabs w) : Calls Tryz.prog 41 #[] w fun e w' => e = .returned (.bool true) ∧ Below w.heap.size w w' := by
  have HT := Lib.hid hT
  clear hT
  go_enter Tryz.func41, Tryz.ntmps41
  have HC1 := num_c 3 (by omega) w
  go_wp2_with fail
  refine HC1.mono ?_
  rintro e' w1 ⟨cs1, rfl, hv1, hb1⟩
  clear HC1
  have HC2 := num_c 1 (by omega) w1
  go_wp2_with fail
  refine HC2.mono ?_
  rintro e' w2 ⟨cs2, rfl, hv2, hb2⟩
  clear HC2
  have HC3 := num_c 2 (by omega) w2
  go_wp2_with fail
  refine HC3.mono ?_
  rintro e' w3 ⟨cs3, rfl, hv3, hb3⟩
  clear HC3
  have hb13 := (hb2.mono (Nat.le_refl _)).trans (hb3.mono hb2.size)
  have hb03 := hb1.trans (hb13.mono hb1.size)
  have hv1' : VIn w3 (fun b => b < w3.heap.size) (numT 3) cs1 := (hv1.keep fun p hp => hb13.cell hp.2).more fun b hb => Nat.lt_of_lt_of_le hb.2 hb13.size
  have hv2' : VIn w3 (fun b => b < w3.heap.size) (numT 1) cs2 := (hv2.keep fun p hp => hb3.cell hp.2).more fun b hb => Nat.lt_of_lt_of_le hb.2 hb3.size
  have hv3' : VIn w3 (fun b => b < w3.heap.size) (numT 2) cs3 := hv3.more fun b hb => hb.2
  obtain ⟨k1, n1, A1, m1, c1, e1, t1, LA1, lm1, lc1, KA1, km1, kc1, rfl⟩ := hv1'.seven
  obtain ⟨k2, n2, A2, m2, c2, e2, t2, LA2, lm2, lc2, KA2, km2, kc2, rfl⟩ := hv2'.seven
  obtain ⟨k3, n3, A3, m3, c3, e3, t3, LA3, lm3, lc3, KA3, km3, kc3, rfl⟩ := hv3'.seven
  have HV1 := Lib.hid hv1'
  have HV2 := Lib.hid hv2'
  have HV3 := Lib.hid hv3'
  have HB3 := Lib.hid hb03
  clear hv1 hv2 hv3 hv1' hv2' hv3' hb1 hb2 hb3 hb13 hb03
  go_wp2_with fail
  have hg := World.alloc_heap_new w3 (.cells #[.int .i64 k1, .bool n1, .slice A1 m1 c1, .int .i64 e1, .string t1, .slice LA1 lm1 lc1, .slice KA1 km1 kc1, .int .i64 k2, .bool n2, .slice A2 m2 c2, .int .i64 e2, .string t2, .slice LA2 lm2 lc2, .slice KA2 km2 kc2, .int .i64 k3, .bool n3, .slice A3 m3 c3, .int .i64 e3, .string t3, .slice LA3 lm3 lc3, .slice KA3 km3 kc3] 53)
  have hb4 : Below w3.heap.size w3 (w3.alloc (.cells #[.int .i64 k1, .bool n1, .slice A1 m1 c1, .int .i64 e1, .string t1, .slice LA1 lm1 lc1, .slice KA1 km1 kc1, .int .i64 k2, .bool n2, .slice A2 m2 c2, .int .i64 e2, .string t2, .slice LA2 lm2 lc2, .slice KA2 km2 kc2, .int .i64 k3, .bool n3, .slice A3 m3 c3, .int .i64 e3, .string t3, .slice LA3 lm3 lc3, .slice KA3 km3 kc3] 53)) := (Below.refl _ w3).alloc (Nat.le_refl _) _
  have hz4 : (w3.alloc (.cells #[.int .i64 k1, .bool n1, .slice A1 m1 c1, .int .i64 e1, .string t1, .slice LA1 lm1 lc1, .slice KA1 km1 kc1, .int .i64 k2, .bool n2, .slice A2 m2 c2, .int .i64 e2, .string t2, .slice LA2 lm2 lc2, .slice KA2 km2 kc2, .int .i64 k3, .bool n3, .slice A3 m3 c3, .int .i64 e3, .string t3, .slice LA3 lm3 lc3, .slice KA3 km3 kc3] 53)).heap.size = w3.heap.size + 1 := by simp
  generalize (w3.alloc (.cells #[.int .i64 k1, .bool n1, .slice A1 m1 c1, .int .i64 e1, .string t1, .slice LA1 lm1 lc1, .slice KA1 km1 kc1, .int .i64 k2, .bool n2, .slice A2 m2 c2, .int .i64 e2, .string t2, .slice LA2 lm2 lc2, .slice KA2 km2 kc2, .int .i64 k3, .bool n3, .slice A3 m3 c3, .int .i64 e3, .string t3, .slice LA3 lm3 lc3, .slice KA3 km3 kc3] 53)) = w4 at *
  have hRL : RdL w4 (fun b => b < w4.heap.size) (some ⟨w3.heap.size, 0, none⟩) 3 l312 := ⟨rfl, by omega, fun i => if i = 0 then [.int .i64 k1, .bool n1, .slice A1 m1 c1, .int .i64 e1, .string t1, .slice LA1 lm1 lc1, .slice KA1 km1 kc1] else if i = 1 then [.int .i64 k2, .bool n2, .slice A2 m2 c2, .int .i64 e2, .string t2, .slice LA2 lm2 lc2, .slice KA2 km2 kc2] else [.int .i64 k3, .bool n3, .slice A3 m3 c3, .int .i64 e3, .string t3, .slice LA3 lm3 lc3, .slice KA3 km3 kc3], fun _ => ⟨_, 0, rfl, (by show w3.heap.size < w4.heap.size; omega), fun i hi => by
      match i, hi with
      | 0, _ => exact ⟨rfl, fun t ht => by
        match t, ht with
        | 0, _ => exact cell_at hg rfl
        | 1, _ => exact cell_at hg rfl
        | 2, _ => exact cell_at hg rfl
        | 3, _ => exact cell_at hg rfl
        | 4, _ => exact cell_at hg rfl
        | 5, _ => exact cell_at hg rfl
        | 6, _ => exact cell_at hg rfl⟩
      | 1, _ => exact ⟨rfl, fun t ht => by
        match t, ht with
        | 0, _ => exact cell_at hg rfl
        | 1, _ => exact cell_at hg rfl
        | 2, _ => exact cell_at hg rfl
        | 3, _ => exact cell_at hg rfl
        | 4, _ => exact cell_at hg rfl
        | 5, _ => exact cell_at hg rfl
        | 6, _ => exact cell_at hg rfl⟩
      | 2, _ => exact ⟨rfl, fun t ht => by
        match t, ht with
        | 0, _ => exact cell_at hg rfl
        | 1, _ => exact cell_at hg rfl
        | 2, _ => exact cell_at hg rfl
        | 3, _ => exact cell_at hg rfl
        | 4, _ => exact cell_at hg rfl
        | 5, _ => exact cell_at hg rfl
        | 6, _ => exact cell_at hg rfl⟩⟩, fun i x hi => by
      match i, hi with
      | 0, hi => injection hi with hi; subst hi; exact (HV1.out.keep fun p hp => hb4.cell hp).more fun b hb => Nat.lt_of_lt_of_le hb hb4.size
      | 1, hi => injection hi with hi; subst hi; exact (HV2.out.keep fun p hp => hb4.cell hp).more fun b hb => Nat.lt_of_lt_of_le hb hb4.size
      | 2, hi => injection hi with hi; subst hi; exact (HV3.out.keep fun p hp => hb4.cell hp).more fun b hb => Nat.lt_of_lt_of_le hb hb4.size⟩
  have HB4 := Lib.hid (HB3.out.trans (hb4.mono HB3.out.size))
  have HC4 := sort_c (c := 3) w4 (HT.out.below HB4.out) hRL (fun b h => h) (by have : underL l312 = 3 := by rfl
                                                                               omega)
  rw [err312] at HC4
  clear hg hb4 hz4 hRL
  refine HC4.mono ?_
  rintro e' w5 ⟨hb5, (⟨h0, -⟩ | ⟨-, LA, lc, ps, rfl, hpl, hlc, hr⟩)⟩
  · exact absurd rfl h0
  have h1 := first_placed hpl (by decide)
  have h2 := last_placed hpl (by decide)
  have e1' : bestAt lessF l312 l312.length = 1 := first312
  have e2' : bestAt moreF l312 l312.length = 0 := last312
  rw [e1'] at h1
  rw [e2'] at h2
  have hx1 := pickV_at (l := l312) (x := numT 1) h1 rfl
  have hx2 := pickV_at (l := l312) (x := numT 3) h2 rfl
  obtain ⟨b, off, x, cs, rfl, hS1, hx, h71, hc1, hv1⟩ := hr.at_ (i := 0) (by omega)
  rw [hx1] at hx
  injection hx with hx
  subst hx
  obtain ⟨b', off', x, ds, hA2, -, hx, h72, hc2, hv2⟩ := hr.at_ (i := 2) (by omega)
  injection hA2 with hA2
  injection hA2 with hA3 hA4
  subst hA3
  subst hA4
  have hx2' : (pickV l312 ps)[2]? = some (numT 3) := hx2
  rw [hx2'] at hx
  injection hx with hx
  subst hx
  obtain ⟨k4, n4, A4, m4, c4, e4, t4, LA4, lm4, lc4, KA4, km4, kc4, rfl⟩ := hv1.seven
  obtain ⟨k5, n5, A5, m5, c5, e5, t5, LA5, lm5, lc5, KA5, km5, kc5, rfl⟩ := hv2.seven
  have HV4 := Lib.hid hv1
  have HV5 := Lib.hid hv2
  have HB5 := Lib.hid (HB4.out.trans (hb5.mono HB4.out.size))
  have hbs : b < w5.heap.size := hS1.2
  have hSS : ∀ W, Below w5.heap.size w5 W → W.cell? ⟨b, off, none⟩ = some (.int .i64 k4) ∧ W.cell? ⟨b, off + 1, none⟩ = some (.bool n4) ∧ W.cell? ⟨b, off + 2, none⟩ = some (.slice A4 m4 c4) ∧ W.cell? ⟨b, off + 3, none⟩ = some (.int .i64 e4) ∧ W.cell? ⟨b, off + 4, none⟩ = some (.string t4) ∧ W.cell? ⟨b, off + 5, none⟩ = some (.slice LA4 lm4 lc4) ∧ W.cell? ⟨b, off + 6, none⟩ = some (.slice KA4 km4 kc4) ∧ W.cell? ⟨b, off + 14, none⟩ = some (.int .i64 k5) ∧ W.cell? ⟨b, off + 15, none⟩ = some (.bool n5) ∧ W.cell? ⟨b, off + 16, none⟩ = some (.slice A5 m5 c5) ∧ W.cell? ⟨b, off + 17, none⟩ = some (.int .i64 e5) ∧ W.cell? ⟨b, off + 18, none⟩ = some (.string t5) ∧ W.cell? ⟨b, off + 19, none⟩ = some (.slice LA5 lm5 lc5) ∧ W.cell? ⟨b, off + 20, none⟩ = some (.slice KA5 km5 kc5) := fun W hW => ⟨(hW.cell (p := ⟨b, off, none⟩) hbs).trans (hc1 0 (by omega)), (hW.cell (p := ⟨b, off + (0 * 7 + 1), none⟩) hbs).trans (hc1 1 (by omega)), (hW.cell (p := ⟨b, off + (0 * 7 + 2), none⟩) hbs).trans (hc1 2 (by omega)), (hW.cell (p := ⟨b, off + (0 * 7 + 3), none⟩) hbs).trans (hc1 3 (by omega)), (hW.cell (p := ⟨b, off + (0 * 7 + 4), none⟩) hbs).trans (hc1 4 (by omega)), (hW.cell (p := ⟨b, off + (0 * 7 + 5), none⟩) hbs).trans (hc1 5 (by omega)), (hW.cell (p := ⟨b, off + (0 * 7 + 6), none⟩) hbs).trans (hc1 6 (by omega)), (hW.cell (p := ⟨b, off + (2 * 7 + 0), none⟩) hbs).trans (hc2 0 (by omega)), (hW.cell (p := ⟨b, off + (2 * 7 + 1), none⟩) hbs).trans (hc2 1 (by omega)), (hW.cell (p := ⟨b, off + (2 * 7 + 2), none⟩) hbs).trans (hc2 2 (by omega)), (hW.cell (p := ⟨b, off + (2 * 7 + 3), none⟩) hbs).trans (hc2 3 (by omega)), (hW.cell (p := ⟨b, off + (2 * 7 + 4), none⟩) hbs).trans (hc2 4 (by omega)), (hW.cell (p := ⟨b, off + (2 * 7 + 5), none⟩) hbs).trans (hc2 5 (by omega)), (hW.cell (p := ⟨b, off + (2 * 7 + 6), none⟩) hbs).trans (hc2 6 (by omega))⟩
  have HSS := Lib.hid hSS
  clear hSS hc1 hc2 hv1 hv2 hb5 hr hpl h1 h2 e1' e2' hx1 hx2 hx2' h71 h72 HC4
  go_upto_region 2 with fail
  refine wp_region_held_drew (S := fun w' => w'.cell? ⟨b, off, none⟩ = some (.int .i64 k4) ∧ w'.cell? ⟨b, off + 1, none⟩ = some (.bool n4) ∧ w'.cell? ⟨b, off + 2, none⟩ = some (.slice A4 m4 c4) ∧ w'.cell? ⟨b, off + 3, none⟩ = some (.int .i64 e4) ∧ w'.cell? ⟨b, off + 4, none⟩ = some (.string t4) ∧ w'.cell? ⟨b, off + 5, none⟩ = some (.slice LA4 lm4 lc4) ∧ w'.cell? ⟨b, off + 6, none⟩ = some (.slice KA4 km4 kc4) ∧ w'.cell? ⟨b, off + 14, none⟩ = some (.int .i64 k5) ∧ w'.cell? ⟨b, off + 15, none⟩ = some (.bool n5) ∧ w'.cell? ⟨b, off + 16, none⟩ = some (.slice A5 m5 c5) ∧ w'.cell? ⟨b, off + 17, none⟩ = some (.int .i64 e5) ∧ w'.cell? ⟨b, off + 18, none⟩ = some (.string t5) ∧ w'.cell? ⟨b, off + 19, none⟩ = some (.slice LA5 lm5 lc5) ∧ w'.cell? ⟨b, off + 20, none⟩ = some (.slice KA5 km5 kc5)) (by kernel_rfl) (HSS.out _ (Below.refl _ _).drew) (fun hHeld => ?_)
  (try simp only [List.size_toArray, List.length_cons, List.length_nil, Nat.reduceAdd, Array.replicate_succ, Array.replicate_zero, List.push_toArray, List.append_toArray, List.nil_append, List.cons_append])
  refine wpAnyH_take (i := 0) (oi := ⟨_, _, _, _, _, _⟩) (v := ?_) rfl (by kernel_rfl) (by kernel_rfl) (by kernel_rfl) (fun _ _ _ h => h) (Or.inl ⟨by rfl, ?_⟩) (by assumption) ?_
  rotate_left
  · intro w hSw
    (try dsimp only at hSw)
    go_split_ands
    go_simp
    try with_reducible rfl
  try simp only [Act.put, List.setIfInBounds_toArray, List.set_cons_zero, List.set_cons_succ]
  refine wpAnyH_ready (rs := [1]) (by kernel_rfl) (by simp) (AllReadyH.cons (o := ⟨_, _, _, _, _, _⟩) rfl (fun K hK => ?_) AllReadyH.nil)
  go_simp
  refine (lnum6_c _ _).mono ?_
  rintro e' w' ⟨rfl, rfl⟩
  (try dsimp only)
  refine hK.out _ _ (HSS.out _ (Below.refl _ _).drew) (fun hHeld2 => ?_)
  clear hK K hHeld
  try simp only [Act.put, List.setIfInBounds_toArray, List.set_cons_zero, List.set_cons_succ]
  refine wpAnyH_take (i := 2) (oi := ⟨_, _, _, _, _, _⟩) (v := ?_) rfl (by kernel_rfl) (by kernel_rfl) (by kernel_rfl) (fun _ _ _ h => h) (Or.inl ⟨by rfl, ?_⟩) (by assumption) ?_
  rotate_left
  · intro w hSw
    (try dsimp only at hSw)
    go_split_ands
    go_simp
    try with_reducible rfl
  try simp only [Act.put, List.setIfInBounds_toArray, List.set_cons_zero, List.set_cons_succ]
  refine wpAnyH_take (i := 3) (oi := ⟨_, _, _, _, _, _⟩) (v := ?_) rfl (by kernel_rfl) (by kernel_rfl) (by kernel_rfl) (fun _ _ _ h => h) (Or.inl ⟨by rfl, ?_⟩) (by assumption) ?_
  rotate_left
  · intro w hSw
    (try dsimp only at hSw)
    go_split_ands
    go_simp
    try with_reducible rfl
  try simp only [Act.put, List.setIfInBounds_toArray, List.set_cons_zero, List.set_cons_succ]
  refine wpAnyH_take (i := 4) (oi := ⟨_, _, _, _, _, _⟩) (v := ?_) rfl (by kernel_rfl) (by kernel_rfl) (by kernel_rfl) (fun _ _ _ h => h) (Or.inl ⟨by rfl, ?_⟩) (by assumption) ?_
  rotate_left
  · intro w hSw
    (try dsimp only at hSw)
    go_split_ands
    go_simp
    try with_reducible rfl
  try simp only [Act.put, List.setIfInBounds_toArray, List.set_cons_zero, List.set_cons_succ]
  refine wpAnyH_take (i := 5) (oi := ⟨_, _, _, _, _, _⟩) (v := ?_) rfl (by kernel_rfl) (by kernel_rfl) (by kernel_rfl) (fun _ _ _ h => h) (Or.inl ⟨by rfl, ?_⟩) (by assumption) ?_
  rotate_left
  · intro w hSw
    (try dsimp only at hSw)
    go_split_ands
    go_simp
    try with_reducible rfl
  try simp only [Act.put, List.setIfInBounds_toArray, List.set_cons_zero, List.set_cons_succ]
  refine wpAnyH_take (i := 6) (oi := ⟨_, _, _, _, _, _⟩) (v := ?_) rfl (by kernel_rfl) (by kernel_rfl) (by kernel_rfl) (fun _ _ _ h => h) (Or.inl ⟨by rfl, ?_⟩) (by assumption) ?_
  rotate_left
  · intro w hSw
    (try dsimp only at hSw)
    go_split_ands
    go_simp
    try with_reducible rfl
  try simp only [Act.put, List.setIfInBounds_toArray, List.set_cons_zero, List.set_cons_succ]
  refine wpAnyH_take (i := 7) (oi := ⟨_, _, _, _, _, _⟩) (v := ?_) rfl (by kernel_rfl) (by kernel_rfl) (by kernel_rfl) (fun _ _ _ h => h) (Or.inl ⟨by rfl, ?_⟩) (by assumption) ?_
  rotate_left
  · intro w hSw
    (try dsimp only at hSw)
    go_split_ands
    go_simp
    try with_reducible rfl
  try simp only [Act.put, List.setIfInBounds_toArray, List.set_cons_zero, List.set_cons_succ]
  refine wpAnyH_take (i := 8) (oi := ⟨_, _, _, _, _, _⟩) (v := ?_) rfl (by kernel_rfl) (by kernel_rfl) (by kernel_rfl) (fun _ _ _ h => h) (Or.inl ⟨by rfl, ?_⟩) (by assumption) ?_
  rotate_left
  · intro w hSw
    (try dsimp only at hSw)
    go_split_ands
    go_simp
    try with_reducible rfl
  try simp only [Act.put, List.setIfInBounds_toArray, List.set_cons_zero, List.set_cons_succ]
  refine wpAnyH_take (i := 9) (oi := ⟨_, _, _, _, _, _⟩) (v := ?_) rfl (by kernel_rfl) (by kernel_rfl) (by kernel_rfl) (fun _ _ _ h => h) (Or.inl ⟨by rfl, ?_⟩) (by assumption) ?_
  rotate_left
  · intro w hSw
    (try dsimp only at hSw)
    go_split_ands
    go_simp
    try with_reducible rfl
  try simp only [Act.put, List.setIfInBounds_toArray, List.set_cons_zero, List.set_cons_succ]
  refine wpAnyH_take (i := 10) (oi := ⟨_, _, _, _, _, _⟩) (v := ?_) rfl (by kernel_rfl) (by kernel_rfl) (by kernel_rfl) (fun _ _ _ h => h) (Or.inl ⟨by rfl, ?_⟩) (by assumption) ?_
  rotate_left
  · intro w hSw
    (try dsimp only at hSw)
    go_split_ands
    go_simp
    try with_reducible rfl
  try simp only [Act.put, List.setIfInBounds_toArray, List.set_cons_zero, List.set_cons_succ]
  refine wpAnyH_take (i := 11) (oi := ⟨_, _, _, _, _, _⟩) (v := ?_) rfl (by kernel_rfl) (by kernel_rfl) (by kernel_rfl) (fun _ _ _ h => h) (Or.inl ⟨by rfl, ?_⟩) (by assumption) ?_
  rotate_left
  · intro w hSw
    (try dsimp only at hSw)
    go_split_ands
    go_simp
    try with_reducible rfl
  try simp only [Act.put, List.setIfInBounds_toArray, List.set_cons_zero, List.set_cons_succ]
  refine wpAnyH_ready (rs := [12]) (by kernel_rfl) (by simp) (AllReadyH.cons (o := ⟨_, _, _, _, _, _⟩) rfl (fun K hK => ?_) AllReadyH.nil)
  go_simp
  refine (num_c 1 (by omega) _).mono ?_
  rintro e' w6 ⟨cs6, rfl, hv6, hb6⟩
  have hb6' : Below w5.heap.size w5 w6 := (Below.refl _ w5).drew.trans (hb6.mono (by simp))
  (try dsimp only)
  refine hK.out _ _ (HSS.out _ hb6') (fun hHeld3 => ?_)
  clear hK K hHeld2
  try simp only [Act.put, List.setIfInBounds_toArray, List.set_cons_zero, List.set_cons_succ]
  refine wpAnyH_ready (rs := [13]) (by kernel_rfl) (by simp) (AllReadyH.cons (o := ⟨_, _, _, _, _, _⟩) rfl (fun K hK => ?_) AllReadyH.nil)
  go_simp
  have HS6 := same_c (numT 1) (numT 1) (fun b => b < w6.heap.size) (fun b => b < w6.heap.size) _ cs6 w6 ((HV4.out.keep fun p hp => hb6'.cell hp.2).more fun b hb => Nat.lt_of_lt_of_le hb.2 hb6'.size) (hv6.more fun b hb => hb.2) (fun b h => h) (fun b h => h)
  rw [same11] at HS6
  refine HS6.mono ?_
  rintro e' w7 ⟨rfl, hb7⟩
  have hb7' : Below w5.heap.size w5 w7 := hb6'.trans (hb7.mono hb6'.size)
  (try dsimp only)
  refine hK.out _ _ (HSS.out _ hb7') (fun hHeld4 => ?_)
  clear hK K hHeld3 HS6
  try simp only [Act.put, List.setIfInBounds_toArray, List.set_cons_zero, List.set_cons_succ]
  refine wpAnyH_take (i := 14) (oi := ⟨_, _, _, _, _, _⟩) (v := ?_) rfl (by kernel_rfl) (by kernel_rfl) (by kernel_rfl) (fun _ _ _ h => h) (Or.inl ⟨by rfl, ?_⟩) (by assumption) ?_
  rotate_left
  · intro w hSw
    (try dsimp only at hSw)
    go_split_ands
    go_simp
    try with_reducible rfl
  try simp only [Act.put, List.setIfInBounds_toArray, List.set_cons_zero, List.set_cons_succ]
  refine wpAnyH_take (i := 15) (oi := ⟨_, _, _, _, _, _⟩) (v := ?_) rfl (by kernel_rfl) (by kernel_rfl) (by kernel_rfl) (fun _ _ _ h => h) (Or.inl ⟨by rfl, ?_⟩) (by assumption) ?_
  rotate_left
  · intro w hSw
    (try dsimp only at hSw)
    go_split_ands
    go_simp
    try with_reducible rfl
  try simp only [Act.put, List.setIfInBounds_toArray, List.set_cons_zero, List.set_cons_succ]
  refine wpAnyH_take (i := 16) (oi := ⟨_, _, _, _, _, _⟩) (v := ?_) rfl (by kernel_rfl) (by kernel_rfl) (by kernel_rfl) (fun _ _ _ h => h) (Or.inl ⟨by rfl, ?_⟩) (by assumption) ?_
  rotate_left
  · intro w hSw
    (try dsimp only at hSw)
    go_split_ands
    go_simp
    try with_reducible rfl
  try simp only [Act.put, List.setIfInBounds_toArray, List.set_cons_zero, List.set_cons_succ]
  refine wpAnyH_take (i := 17) (oi := ⟨_, _, _, _, _, _⟩) (v := ?_) rfl (by kernel_rfl) (by kernel_rfl) (by kernel_rfl) (fun _ _ _ h => h) (Or.inl ⟨by rfl, ?_⟩) (by assumption) ?_
  rotate_left
  · intro w hSw
    (try dsimp only at hSw)
    go_split_ands
    go_simp
    try with_reducible rfl
  try simp only [Act.put, List.setIfInBounds_toArray, List.set_cons_zero, List.set_cons_succ]
  refine wpAnyH_take (i := 18) (oi := ⟨_, _, _, _, _, _⟩) (v := ?_) rfl (by kernel_rfl) (by kernel_rfl) (by kernel_rfl) (fun _ _ _ h => h) (Or.inl ⟨by rfl, ?_⟩) (by assumption) ?_
  rotate_left
  · intro w hSw
    (try dsimp only at hSw)
    go_split_ands
    go_simp
    try with_reducible rfl
  try simp only [Act.put, List.setIfInBounds_toArray, List.set_cons_zero, List.set_cons_succ]
  refine wpAnyH_ready (rs := [19]) (by kernel_rfl) (by simp) (AllReadyH.cons (o := ⟨_, _, _, _, _, _⟩) rfl (fun K hK => ?_) AllReadyH.nil)
  go_simp
  refine (num_c 3 (by omega) _).mono ?_
  rintro e' w8 ⟨cs8, rfl, hv8, hb8⟩
  have hb8' : Below w5.heap.size w5 w8 := hb7'.trans (hb8.mono hb7'.size)
  (try dsimp only)
  refine hK.out _ _ (HSS.out _ hb8') (fun hHeld5 => ?_)
  clear hK K hHeld4
  try simp only [Act.put, List.setIfInBounds_toArray, List.set_cons_zero, List.set_cons_succ]
  refine wpAnyH_ready (rs := [20]) (by kernel_rfl) (by simp) (AllReadyH.cons (o := ⟨_, _, _, _, _, _⟩) rfl (fun K hK => ?_) AllReadyH.nil)
  go_simp
  have HS8 := same_c (numT 3) (numT 3) (fun b => b < w8.heap.size) (fun b => b < w8.heap.size) _ cs8 w8 ((HV5.out.keep fun p hp => hb8'.cell hp.2).more fun b hb => Nat.lt_of_lt_of_le hb.2 hb8'.size) (hv8.more fun b hb => hb.2) (fun b h => h) (fun b h => h)
  rw [same33] at HS8
  refine HS8.mono ?_
  rintro e' w9 ⟨rfl, hb9⟩
  have hb9' : Below w5.heap.size w5 w9 := hb8'.trans (hb9.mono hb8'.size)
  (try dsimp only)
  refine hK.out _ _ (HSS.out _ hb9') (fun hHeld6 => ?_)
  clear hK K hHeld5 HS8
  try simp only [Act.put, List.setIfInBounds_toArray, List.set_cons_zero, List.set_cons_succ]
  refine wpAnyH_take (i := 21) (oi := ⟨_, _, _, _, _, _⟩) (v := ?_) rfl (by kernel_rfl) (by kernel_rfl) (by kernel_rfl) (fun _ _ _ h => h) (Or.inl ⟨by rfl, ?_⟩) (by assumption) ?_
  rotate_left
  · intro w hSw
    (try dsimp only at hSw)
    go_split_ands
    go_simp
    try with_reducible rfl
  try simp only [Act.put, List.setIfInBounds_toArray, List.set_cons_zero, List.set_cons_succ]
  refine wpAnyH_take (i := 22) (oi := ⟨_, _, _, _, _, _⟩) (v := ?_) rfl (by kernel_rfl) (by kernel_rfl) (by kernel_rfl) (fun _ _ _ h => h) (Or.inl ⟨by rfl, ?_⟩) (by assumption) ?_
  rotate_left
  · intro w hSw
    (try dsimp only at hSw)
    go_split_ands
    go_simp
    try with_reducible rfl
  try simp only [Act.put, List.setIfInBounds_toArray, List.set_cons_zero, List.set_cons_succ]
  refine wpAnyH_done (by kernel_rfl) ?_ _
  go_wp2_with fail
  go_ret
  exact ⟨rfl, HB5.out.trans (hb9'.mono HB5.out.size)⟩
end Go.Proofs.YtklpfgjnlheikaaGreatDoor

namespace Go.Proofs.YtklpfgjnlheikaaGreatDoor
open Go.RowKit

theorem sameV_self (x : VT) : sameV x x = true := sameV_iff.2 rfl

set_option maxRecDepth 100000 in
set_option maxHeartbeats 4000000 in
theorem orderEnds_c {A : Option Addr} {n c : Nat} {l : List VT} (w : World) (hT : Tabs w) (hl : RdL w (fun b => b < w.heap.size) A n l) (hsz : underL l ≤ 21474836) :
    Calls Tryz.prog 11 #[.slice A n c] w fun e w' => e = .returned (.bool true) ∧ Below w.heap.size w w' := by
  have HT := Lib.hid hT
  have HL := Lib.hid hl
  have HLN := Lib.hid hl.1
  have hnb := hl.2.1
  have HA := alive6_c w hT
  clear hT hl
  go_enter Tryz.func11, Tryz.ntmps11
  go_wp2_with fail
  refine HA.mono ?_
  rintro e' w1 ⟨rfl, hb1⟩
  clear HA
  have HC2 := orderLeast_c (c := c) (d := c) w1 (HT.out.below hb1) (HL.out.stay hb1 fun b h => h) (HL.out.stay hb1 fun b h => h) (fun b hb => Nat.lt_of_lt_of_le hb hb1.size)
  obtain ⟨P1, hP1⟩ : ∃ P1, endP lessF l l = P1 := ⟨_, rfl⟩
  obtain ⟨P2, hP2⟩ : ∃ P2, endP moreF l l = P2 := ⟨_, rfl⟩
  obtain ⟨E, hE⟩ : ∃ E, endE l l = E := ⟨_, rfl⟩
  rw [hP1, hE] at HC2
  have HP1 := Lib.hid hP1
  have HP2 := Lib.hid hP2
  have HE := Lib.hid hE
  have HB1 := Lib.hid hb1
  clear hP1 hP2 hE hb1
  go_wp2_with fail
  refine HC2.mono ?_
  rintro e' w2 ⟨rfl, hb2⟩
  clear HC2
  have hb2' := HB1.out.trans (hb2.mono HB1.out.size)
  have HC3 := orderMost_c (c := c) (d := c) w2 (HT.out.below hb2') (HL.out.stay hb2' fun b h => h) (HL.out.stay hb2' fun b h => h) (fun b hb => Nat.lt_of_lt_of_le hb hb2'.size)
  rw [HP2.out, HE.out] at HC3
  have HB2 := Lib.hid hb2'
  clear hb2 hb2'
  go_wp2_with fail
  refine HC3.mono ?_
  rintro e' w3 ⟨rfl, hb3⟩
  clear HC3
  have hb3' := HB2.out.trans (hb3.mono HB2.out.size)
  have HC4 := sort_c (c := c) w3 (HT.out.below hb3') (HL.out.stay hb3' fun b h => h) (fun b hb => Nat.lt_of_lt_of_le hb hb3'.size) hsz
  have HB3 := Lib.hid hb3'
  clear hb3 hb3'
  go_wp2_with fail
  refine HC4.mono ?_
  rintro e' w4 ⟨hb4, hres⟩
  clear HC4
  have HB4 := Lib.hid (HB3.out.trans (hb4.mono HB3.out.size))
  by_cases hE0 : E = 0
  · subst hE0
    have hEE := HE.out
    unfold endE at hEE
    have hI : itemsE l l = 0 := by
      by_cases h : itemsE l l = 0
      · exact h
      · rw [if_neg h] at hEE; exact absurd hEE h
    have hpos : 0 < n := by
      rw [if_pos hI, HLN.out] at hEE
      by_cases h : n = 0
      · rw [if_pos h] at hEE; omega
      · omega
    rcases hres with ⟨h, -⟩ | ⟨-, LA, lc, ps, rfl, hpl, hlc, hr⟩
    · exact absurd hI h
    have hp1 : P1 = bestAt lessF l n := by
      rw [← HP1.out]; unfold endP; rw [if_pos HE.out, HLN.out]
    have hp2 : P2 = bestAt moreF l n := by
      rw [← HP2.out]; unfold endP; rw [if_pos HE.out, HLN.out]
    have h1 := first_placed hpl (by rw [HLN.out]; exact hpos)
    have h2 := last_placed hpl (by rw [HLN.out]; exact hpos)
    rw [HLN.out, ← hp1] at h1
    rw [HLN.out, ← hp2] at h2
    have hq1 := bestAt_lt lessF l n
    rw [← hp1] at hq1
    have hq2 := bestAt_lt moreF l n
    rw [← hp2] at hq2
    have hq1 : P1 < n := by omega
    have hq2 : P2 < n := by omega
    obtain ⟨N1, hN1⟩ : ∃ N1, n - 1 = N1 := ⟨_, rfl⟩
    rw [hN1] at h2
    have hN2 : N1 < n := by omega
    have hNw : IntKind.i64.wrap (N1 : Int) = (N1 : Int) := IntWalk.i64_in _ (by omega)
    have hNs : (n : Int) - 1 = (N1 : Int) := by omega
    have a1 : (P1 : Int) < (n : Int) := by omega
    have a2 : (0 : Int) ≤ (P1 : Int) := by omega
    have a3 : ((P1 : Int)).toNat = P1 := by omega
    have a4 : (P2 : Int) < (n : Int) := by omega
    have a5 : (0 : Int) ≤ (P2 : Int) := by omega
    have a6 : ((P2 : Int)).toNat = P2 := by omega
    have a7 : (N1 : Int) < (n : Int) := by omega
    have a8 : (0 : Int) ≤ (N1 : Int) := by omega
    have a9 : ((N1 : Int)).toNat = N1 := by omega
    have a10 : (0 : Int) < (n : Int) := by omega
    clear hp1 hp2 hN1 hEE
    obtain ⟨b, off, x, cs1, rfl, hS1, hx, h71, hc1, hv1⟩ := HL.out.at_ hq1
    obtain ⟨b', off', y, cs2, hA2, -, hy, h72, hc2, hv2⟩ := HL.out.at_ hq2
    injection hA2 with hA2
    injection hA2 with hA3 hA4
    subst hA3
    subst hA4
    obtain ⟨g, go, x', cs3, rfl, hS3, hx', h73, hc3, hv3⟩ := hr.at_ (i := 0) hpos
    obtain ⟨g', go', y', cs4, hA2, -, hy', h74, hc4, hv4⟩ := hr.at_ (i := N1) hN2
    injection hA2 with hA2
    injection hA2 with hA3 hA4
    subst hA3
    subst hA4
    have e1 := pickV_at h1 hx
    have e2 := pickV_at h2 hy
    rw [hx'] at e1
    injection e1 with e1
    subst e1
    rw [hy'] at e2
    injection e2 with e2
    subst e2
    obtain ⟨k1, n1, A1, m1, c1, e1, t1, LA1, lm1, lc1, KA1, km1, kc1, rfl⟩ := hv1.seven
    obtain ⟨k2, n2, A2, m2, c2, e2, t2, LA2, lm2, lc2, KA2, km2, kc2, rfl⟩ := hv2.seven
    obtain ⟨k3, n3, A3, m3, c3, e3, t3, LA3, lm3, lc3, KA3, km3, kc3, rfl⟩ := hv3.seven
    obtain ⟨k4, n4, A4, m4, c4, e4, t4, LA4, lm4, lc4, KA4, km4, kc4, rfl⟩ := hv4.seven
    have HV1 := Lib.hid hv1
    have HV2 := Lib.hid hv2
    have HV3 := Lib.hid hv3
    have HV4 := Lib.hid hv4
    have hgs : g < w4.heap.size := hS3.2
    have HB04 := HB4
    have hSS : ∀ W, Below w4.heap.size w4 W → W.cell? ⟨b, off + P1 * 7, none⟩ = some (.int .i64 k1) ∧ W.cell? ⟨b, off + P1 * 7 + 1, none⟩ = some (.bool n1) ∧ W.cell? ⟨b, off + P1 * 7 + 2, none⟩ = some (.slice A1 m1 c1) ∧ W.cell? ⟨b, off + P1 * 7 + 3, none⟩ = some (.int .i64 e1) ∧ W.cell? ⟨b, off + P1 * 7 + 4, none⟩ = some (.string t1) ∧ W.cell? ⟨b, off + P1 * 7 + 5, none⟩ = some (.slice LA1 lm1 lc1) ∧ W.cell? ⟨b, off + P1 * 7 + 6, none⟩ = some (.slice KA1 km1 kc1) ∧ W.cell? ⟨b, off + P2 * 7, none⟩ = some (.int .i64 k2) ∧ W.cell? ⟨b, off + P2 * 7 + 1, none⟩ = some (.bool n2) ∧ W.cell? ⟨b, off + P2 * 7 + 2, none⟩ = some (.slice A2 m2 c2) ∧ W.cell? ⟨b, off + P2 * 7 + 3, none⟩ = some (.int .i64 e2) ∧ W.cell? ⟨b, off + P2 * 7 + 4, none⟩ = some (.string t2) ∧ W.cell? ⟨b, off + P2 * 7 + 5, none⟩ = some (.slice LA2 lm2 lc2) ∧ W.cell? ⟨b, off + P2 * 7 + 6, none⟩ = some (.slice KA2 km2 kc2) ∧ W.cell? ⟨g, go, none⟩ = some (.int .i64 k3) ∧ W.cell? ⟨g, go + 1, none⟩ = some (.bool n3) ∧ W.cell? ⟨g, go + 2, none⟩ = some (.slice A3 m3 c3) ∧ W.cell? ⟨g, go + 3, none⟩ = some (.int .i64 e3) ∧ W.cell? ⟨g, go + 4, none⟩ = some (.string t3) ∧ W.cell? ⟨g, go + 5, none⟩ = some (.slice LA3 lm3 lc3) ∧ W.cell? ⟨g, go + 6, none⟩ = some (.slice KA3 km3 kc3) ∧ W.cell? ⟨g, go + N1 * 7, none⟩ = some (.int .i64 k4) ∧ W.cell? ⟨g, go + N1 * 7 + 1, none⟩ = some (.bool n4) ∧ W.cell? ⟨g, go + N1 * 7 + 2, none⟩ = some (.slice A4 m4 c4) ∧ W.cell? ⟨g, go + N1 * 7 + 3, none⟩ = some (.int .i64 e4) ∧ W.cell? ⟨g, go + N1 * 7 + 4, none⟩ = some (.string t4) ∧ W.cell? ⟨g, go + N1 * 7 + 5, none⟩ = some (.slice LA4 lm4 lc4) ∧ W.cell? ⟨g, go + N1 * 7 + 6, none⟩ = some (.slice KA4 km4 kc4) := fun W hW => by
      have hw9 := HB04.out.trans (hW.mono HB04.out.size)
      exact ⟨(hw9.cell (p := ⟨b, off + (P1 * 7 + 0), none⟩) hS1).trans (hc1 0 (by omega)), (hw9.cell (p := ⟨b, off + (P1 * 7 + 1), none⟩) hS1).trans (hc1 1 (by omega)), (hw9.cell (p := ⟨b, off + (P1 * 7 + 2), none⟩) hS1).trans (hc1 2 (by omega)), (hw9.cell (p := ⟨b, off + (P1 * 7 + 3), none⟩) hS1).trans (hc1 3 (by omega)), (hw9.cell (p := ⟨b, off + (P1 * 7 + 4), none⟩) hS1).trans (hc1 4 (by omega)), (hw9.cell (p := ⟨b, off + (P1 * 7 + 5), none⟩) hS1).trans (hc1 5 (by omega)), (hw9.cell (p := ⟨b, off + (P1 * 7 + 6), none⟩) hS1).trans (hc1 6 (by omega)), (hw9.cell (p := ⟨b, off + (P2 * 7 + 0), none⟩) hS1).trans (hc2 0 (by omega)), (hw9.cell (p := ⟨b, off + (P2 * 7 + 1), none⟩) hS1).trans (hc2 1 (by omega)), (hw9.cell (p := ⟨b, off + (P2 * 7 + 2), none⟩) hS1).trans (hc2 2 (by omega)), (hw9.cell (p := ⟨b, off + (P2 * 7 + 3), none⟩) hS1).trans (hc2 3 (by omega)), (hw9.cell (p := ⟨b, off + (P2 * 7 + 4), none⟩) hS1).trans (hc2 4 (by omega)), (hw9.cell (p := ⟨b, off + (P2 * 7 + 5), none⟩) hS1).trans (hc2 5 (by omega)), (hw9.cell (p := ⟨b, off + (P2 * 7 + 6), none⟩) hS1).trans (hc2 6 (by omega)), (hW.cell (p := ⟨g, go, none⟩) hgs).trans (hc3 0 (by omega)), (hW.cell (p := ⟨g, go + (0 * 7 + 1), none⟩) hgs).trans (hc3 1 (by omega)), (hW.cell (p := ⟨g, go + (0 * 7 + 2), none⟩) hgs).trans (hc3 2 (by omega)), (hW.cell (p := ⟨g, go + (0 * 7 + 3), none⟩) hgs).trans (hc3 3 (by omega)), (hW.cell (p := ⟨g, go + (0 * 7 + 4), none⟩) hgs).trans (hc3 4 (by omega)), (hW.cell (p := ⟨g, go + (0 * 7 + 5), none⟩) hgs).trans (hc3 5 (by omega)), (hW.cell (p := ⟨g, go + (0 * 7 + 6), none⟩) hgs).trans (hc3 6 (by omega)), (hW.cell (p := ⟨g, go + (N1 * 7 + 0), none⟩) hgs).trans (hc4 0 (by omega)), (hW.cell (p := ⟨g, go + (N1 * 7 + 1), none⟩) hgs).trans (hc4 1 (by omega)), (hW.cell (p := ⟨g, go + (N1 * 7 + 2), none⟩) hgs).trans (hc4 2 (by omega)), (hW.cell (p := ⟨g, go + (N1 * 7 + 3), none⟩) hgs).trans (hc4 3 (by omega)), (hW.cell (p := ⟨g, go + (N1 * 7 + 4), none⟩) hgs).trans (hc4 4 (by omega)), (hW.cell (p := ⟨g, go + (N1 * 7 + 5), none⟩) hgs).trans (hc4 5 (by omega)), (hW.cell (p := ⟨g, go + (N1 * 7 + 6), none⟩) hgs).trans (hc4 6 (by omega))⟩
    have HSS := Lib.hid hSS
    clear hSS hc1 hc2 hc3 hc4 hv1 hv2 hv3 hv4 hr hpl h1 h2 hx hy hx' hy' h71 h72 h73 h74 HB04 hI hb4
    go_upto_region 8 with (first | (go_at_call 43; refine (lnum6_c _ _).mono ?_; rintro e' w' ⟨rfl, rfl⟩))
    refine wp_region_held_drew (S := fun w' => w'.cell? ⟨b, off + P1 * 7, none⟩ = some (.int .i64 k1) ∧ w'.cell? ⟨b, off + P1 * 7 + 1, none⟩ = some (.bool n1) ∧ w'.cell? ⟨b, off + P1 * 7 + 2, none⟩ = some (.slice A1 m1 c1) ∧ w'.cell? ⟨b, off + P1 * 7 + 3, none⟩ = some (.int .i64 e1) ∧ w'.cell? ⟨b, off + P1 * 7 + 4, none⟩ = some (.string t1) ∧ w'.cell? ⟨b, off + P1 * 7 + 5, none⟩ = some (.slice LA1 lm1 lc1) ∧ w'.cell? ⟨b, off + P1 * 7 + 6, none⟩ = some (.slice KA1 km1 kc1) ∧ w'.cell? ⟨b, off + P2 * 7, none⟩ = some (.int .i64 k2) ∧ w'.cell? ⟨b, off + P2 * 7 + 1, none⟩ = some (.bool n2) ∧ w'.cell? ⟨b, off + P2 * 7 + 2, none⟩ = some (.slice A2 m2 c2) ∧ w'.cell? ⟨b, off + P2 * 7 + 3, none⟩ = some (.int .i64 e2) ∧ w'.cell? ⟨b, off + P2 * 7 + 4, none⟩ = some (.string t2) ∧ w'.cell? ⟨b, off + P2 * 7 + 5, none⟩ = some (.slice LA2 lm2 lc2) ∧ w'.cell? ⟨b, off + P2 * 7 + 6, none⟩ = some (.slice KA2 km2 kc2) ∧ w'.cell? ⟨g, go, none⟩ = some (.int .i64 k3) ∧ w'.cell? ⟨g, go + 1, none⟩ = some (.bool n3) ∧ w'.cell? ⟨g, go + 2, none⟩ = some (.slice A3 m3 c3) ∧ w'.cell? ⟨g, go + 3, none⟩ = some (.int .i64 e3) ∧ w'.cell? ⟨g, go + 4, none⟩ = some (.string t3) ∧ w'.cell? ⟨g, go + 5, none⟩ = some (.slice LA3 lm3 lc3) ∧ w'.cell? ⟨g, go + 6, none⟩ = some (.slice KA3 km3 kc3) ∧ w'.cell? ⟨g, go + N1 * 7, none⟩ = some (.int .i64 k4) ∧ w'.cell? ⟨g, go + N1 * 7 + 1, none⟩ = some (.bool n4) ∧ w'.cell? ⟨g, go + N1 * 7 + 2, none⟩ = some (.slice A4 m4 c4) ∧ w'.cell? ⟨g, go + N1 * 7 + 3, none⟩ = some (.int .i64 e4) ∧ w'.cell? ⟨g, go + N1 * 7 + 4, none⟩ = some (.string t4) ∧ w'.cell? ⟨g, go + N1 * 7 + 5, none⟩ = some (.slice LA4 lm4 lc4) ∧ w'.cell? ⟨g, go + N1 * 7 + 6, none⟩ = some (.slice KA4 km4 kc4)) (by kernel_rfl) (HSS.out _ (Below.refl _ _).drew) (fun hHeld => ?_)
    (try simp only [List.size_toArray, List.length_cons, List.length_nil, Nat.reduceAdd, Array.replicate_succ, Array.replicate_zero, List.push_toArray, List.append_toArray, List.nil_append, List.cons_append])
    refine wpAnyH_take (i := 0) (oi := ⟨_, _, _, _, _, _⟩) (v := ?_) rfl (by kernel_rfl) (by kernel_rfl) (by kernel_rfl) (fun _ _ _ h => h) (Or.inl ⟨by rfl, ?_⟩) (by assumption) ?_
    rotate_left
    · intro w hSw
      (try dsimp only at hSw)
      go_split_ands
      go_simp
      try with_reducible rfl
    try simp only [Act.put, List.setIfInBounds_toArray, List.set_cons_zero, List.set_cons_succ]
    refine wpAnyH_take (i := 2) (oi := ⟨_, _, _, _, _, _⟩) (v := ?_) rfl (by kernel_rfl) (by kernel_rfl) (by kernel_rfl) (fun _ _ _ h => h) (Or.inl ⟨by rfl, ?_⟩) (by assumption) ?_
    rotate_left
    · intro w hSw
      (try dsimp only at hSw)
      go_split_ands
      go_simp
      try with_reducible rfl
    try simp only [Act.put, List.setIfInBounds_toArray, List.set_cons_zero, List.set_cons_succ]
    refine wpAnyH_ready (rs := [1]) (by kernel_rfl) (by simp) (AllReadyH.cons (o := ⟨_, _, _, _, _, _⟩) rfl (fun K hK => ?_) AllReadyH.nil)
    go_simp
    refine (lnum6_c _ _).mono ?_
    rintro e' w' ⟨rfl, rfl⟩
    (try dsimp only)
    refine hK.out _ _ (HSS.out _ (Below.refl _ _).drew) (fun hHeld2 => ?_)
    clear hK K hHeld
    try simp only [Act.put, List.setIfInBounds_toArray, List.set_cons_zero, List.set_cons_succ]
    refine wpAnyH_ready (rs := [3]) (by kernel_rfl) (by simp) (AllReadyH.cons (o := ⟨_, _, _, _, _, _⟩) rfl (fun K hK => ?_) AllReadyH.nil)
    go_simp
    refine (lnum6_c _ _).mono ?_
    rintro e' w' ⟨rfl, rfl⟩
    (try dsimp only)
    refine hK.out _ _ (HSS.out _ (Below.refl _ _).drew) (fun hHeld3 => ?_)
    clear hK K hHeld2
    try simp only [Act.put, List.setIfInBounds_toArray, List.set_cons_zero, List.set_cons_succ]
    refine wpAnyH_take (i := 4) (oi := ⟨_, _, _, _, _, _⟩) (v := ?_) rfl (by kernel_rfl) (by kernel_rfl) (by kernel_rfl) (fun _ _ _ h => h) (Or.inl ⟨by rfl, ?_⟩) (by assumption) ?_
    rotate_left
    · intro w hSw
      (try dsimp only at hSw)
      go_split_ands
      go_simp
      try with_reducible rfl
    try simp only [Act.put, List.setIfInBounds_toArray, List.set_cons_zero, List.set_cons_succ]
    refine wpAnyH_take (i := 5) (oi := ⟨_, _, _, _, _, _⟩) (v := ?_) rfl (by kernel_rfl) (by kernel_rfl) (by kernel_rfl) (fun _ _ _ h => h) (Or.inl ⟨by rfl, ?_⟩) (by assumption) ?_
    rotate_left
    · intro w hSw
      (try dsimp only at hSw)
      go_split_ands
      go_simp
      try with_reducible rfl
    try simp only [Act.put, List.setIfInBounds_toArray, List.set_cons_zero, List.set_cons_succ]
    refine wpAnyH_take (i := 6) (oi := ⟨_, _, _, _, _, _⟩) (v := ?_) rfl (by kernel_rfl) (by kernel_rfl) (by kernel_rfl) (fun _ _ _ h => h) (Or.inl ⟨by rfl, ?_⟩) (by assumption) ?_
    rotate_left
    · intro w hSw
      (try dsimp only at hSw)
      go_split_ands
      go_simp
      try with_reducible rfl
    try simp only [Act.put, List.setIfInBounds_toArray, List.set_cons_zero, List.set_cons_succ]
    refine wpAnyH_take (i := 7) (oi := ⟨_, _, _, _, _, _⟩) (v := ?_) rfl (by kernel_rfl) (by kernel_rfl) (by kernel_rfl) (fun _ _ _ h => h) (Or.inl ⟨by rfl, ?_⟩) (by assumption) ?_
    rotate_left
    · intro w hSw
      (try dsimp only at hSw)
      go_split_ands
      go_simp
      try with_reducible rfl
    try simp only [Act.put, List.setIfInBounds_toArray, List.set_cons_zero, List.set_cons_succ]
    refine wpAnyH_take (i := 8) (oi := ⟨_, _, _, _, _, _⟩) (v := ?_) rfl (by kernel_rfl) (by kernel_rfl) (by kernel_rfl) (fun _ _ _ h => h) (Or.inl ⟨by rfl, ?_⟩) (by assumption) ?_
    rotate_left
    · intro w hSw
      (try dsimp only at hSw)
      go_split_ands
      go_simp
      try with_reducible rfl
    try simp only [Act.put, List.setIfInBounds_toArray, List.set_cons_zero, List.set_cons_succ]
    refine wpAnyH_take (i := 9) (oi := ⟨_, _, _, _, _, _⟩) (v := ?_) rfl (by kernel_rfl) (by kernel_rfl) (by kernel_rfl) (fun _ _ _ h => h) (Or.inl ⟨by rfl, ?_⟩) (by assumption) ?_
    rotate_left
    · intro w hSw
      (try dsimp only at hSw)
      go_split_ands
      go_simp
      try with_reducible rfl
    try simp only [Act.put, List.setIfInBounds_toArray, List.set_cons_zero, List.set_cons_succ]
    refine wpAnyH_take (i := 10) (oi := ⟨_, _, _, _, _, _⟩) (v := ?_) rfl (by kernel_rfl) (by kernel_rfl) (by kernel_rfl) (fun _ _ _ h => h) (Or.inl ⟨by rfl, ?_⟩) (by assumption) ?_
    rotate_left
    · intro w hSw
      (try dsimp only at hSw)
      go_split_ands
      go_simp
      try with_reducible rfl
    try simp only [Act.put, List.setIfInBounds_toArray, List.set_cons_zero, List.set_cons_succ]
    refine wpAnyH_take (i := 11) (oi := ⟨_, _, _, _, _, _⟩) (v := ?_) rfl (by kernel_rfl) (by kernel_rfl) (by kernel_rfl) (fun _ _ _ h => h) (Or.inl ⟨by rfl, ?_⟩) (by assumption) ?_
    rotate_left
    · intro w hSw
      (try dsimp only at hSw)
      go_split_ands
      go_simp
      try with_reducible rfl
    try simp only [Act.put, List.setIfInBounds_toArray, List.set_cons_zero, List.set_cons_succ]
    refine wpAnyH_take (i := 12) (oi := ⟨_, _, _, _, _, _⟩) (v := ?_) rfl (by kernel_rfl) (by kernel_rfl) (by kernel_rfl) (fun _ _ _ h => h) (Or.inl ⟨by rfl, ?_⟩) (by assumption) ?_
    rotate_left
    · intro w hSw
      (try dsimp only at hSw)
      go_split_ands
      go_simp
      try with_reducible rfl
    try simp only [Act.put, List.setIfInBounds_toArray, List.set_cons_zero, List.set_cons_succ]
    refine wpAnyH_take (i := 13) (oi := ⟨_, _, _, _, _, _⟩) (v := ?_) rfl (by kernel_rfl) (by kernel_rfl) (by kernel_rfl) (fun _ _ _ h => h) (Or.inl ⟨by rfl, ?_⟩) (by assumption) ?_
    rotate_left
    · intro w hSw
      (try dsimp only at hSw)
      go_split_ands
      go_simp
      try with_reducible rfl
    try simp only [Act.put, List.setIfInBounds_toArray, List.set_cons_zero, List.set_cons_succ]
    refine wpAnyH_ready (rs := [14]) (by kernel_rfl) (by simp) (AllReadyH.cons (o := ⟨_, _, _, _, _, _⟩) rfl (fun K hK => ?_) AllReadyH.nil)
    go_simp
    have HS6 := same_c x' x' (fun b => b < w4.heap.size) (fun b => b < w4.heap.size) _ _ w4.drew ((HV1.out.keep fun p hp => HB4.out.drew.cell hp).more fun b hb => Nat.lt_of_lt_of_le hb HB4.out.size) ((HV3.out.keep fun p hp => (Below.refl w4.heap.size w4).drew.cell hp.2).more fun b hb => hb.2) (fun b h => h) (fun b h => h)
    rw [sameV_self] at HS6
    refine HS6.mono ?_
    rintro e' w7 ⟨rfl, hb7⟩
    have hb7' : Below w4.heap.size w4 w7 := (Below.refl _ w4).drew.trans (hb7.mono (by simp))
    (try dsimp only)
    refine hK.out _ _ (HSS.out _ hb7') (fun hHeld4 => ?_)
    clear hK K hHeld3 HS6
    try simp only [Act.put, List.setIfInBounds_toArray, List.set_cons_zero, List.set_cons_succ]
    refine wpAnyH_take (i := 15) (oi := ⟨_, _, _, _, _, _⟩) (v := ?_) rfl (by kernel_rfl) (by kernel_rfl) (by kernel_rfl) (fun _ _ _ h => h) (Or.inl ⟨by rfl, ?_⟩) (by assumption) ?_
    rotate_left
    · intro w hSw
      (try dsimp only at hSw)
      go_split_ands
      go_simp
      try with_reducible rfl
    try simp only [Act.put, List.setIfInBounds_toArray, List.set_cons_zero, List.set_cons_succ]
    refine wpAnyH_take (i := 16) (oi := ⟨_, _, _, _, _, _⟩) (v := ?_) rfl (by kernel_rfl) (by kernel_rfl) (by kernel_rfl) (fun _ _ _ h => h) (Or.inl ⟨by rfl, ?_⟩) (by assumption) ?_
    rotate_left
    · intro w hSw
      (try dsimp only at hSw)
      go_split_ands
      go_simp
      try with_reducible rfl
    try simp only [Act.put, List.setIfInBounds_toArray, List.set_cons_zero, List.set_cons_succ]
    refine wpAnyH_take (i := 17) (oi := ⟨_, _, _, _, _, _⟩) (v := ?_) rfl (by kernel_rfl) (by kernel_rfl) (by kernel_rfl) (fun _ _ _ h => h) (Or.inl ⟨by rfl, ?_⟩) (by assumption) ?_
    rotate_left
    · intro w hSw
      (try dsimp only at hSw)
      go_split_ands
      go_simp
      try with_reducible rfl
    try simp only [Act.put, List.setIfInBounds_toArray, List.set_cons_zero, List.set_cons_succ]
    refine wpAnyH_take (i := 18) (oi := ⟨_, _, _, _, _, _⟩) (v := ?_) rfl (by kernel_rfl) (by kernel_rfl) (by kernel_rfl) (fun _ _ _ h => h) (Or.inl ⟨by rfl, ?_⟩) (by assumption) ?_
    rotate_left
    · intro w hSw
      (try dsimp only at hSw)
      go_split_ands
      go_simp
      try with_reducible rfl
    try simp only [Act.put, List.setIfInBounds_toArray, List.set_cons_zero, List.set_cons_succ]
    refine wpAnyH_take (i := 19) (oi := ⟨_, _, _, _, _, _⟩) (v := ?_) rfl (by kernel_rfl) (by kernel_rfl) (by kernel_rfl) (fun _ _ _ h => h) (Or.inl ⟨by rfl, ?_⟩) (by assumption) ?_
    rotate_left
    · intro w hSw
      (try dsimp only at hSw)
      go_split_ands
      go_simp
      try with_reducible rfl
    try simp only [Act.put, List.setIfInBounds_toArray, List.set_cons_zero, List.set_cons_succ]
    refine wpAnyH_take (i := 20) (oi := ⟨_, _, _, _, _, _⟩) (v := ?_) rfl (by kernel_rfl) (by kernel_rfl) (by kernel_rfl) (fun _ _ _ h => h) (Or.inl ⟨by rfl, ?_⟩) (by assumption) ?_
    rotate_left
    · intro w hSw
      (try dsimp only at hSw)
      go_split_ands
      go_simp
      try with_reducible rfl
    try simp only [Act.put, List.setIfInBounds_toArray, List.set_cons_zero, List.set_cons_succ]
    refine wpAnyH_take (i := 21) (oi := ⟨_, _, _, _, _, _⟩) (v := ?_) rfl (by kernel_rfl) (by kernel_rfl) (by kernel_rfl) (fun _ _ _ h => h) (Or.inl ⟨by rfl, ?_⟩) (by assumption) ?_
    rotate_left
    · intro w hSw
      (try dsimp only at hSw)
      go_split_ands
      go_simp
      try with_reducible rfl
    try simp only [Act.put, List.setIfInBounds_toArray, List.set_cons_zero, List.set_cons_succ]
    refine wpAnyH_take (i := 22) (oi := ⟨_, _, _, _, _, _⟩) (v := ?_) rfl (by kernel_rfl) (by kernel_rfl) (by kernel_rfl) (fun _ _ _ h => h) (Or.inl ⟨by rfl, ?_⟩) (by assumption) ?_
    rotate_left
    · intro w hSw
      (try dsimp only at hSw)
      go_split_ands
      go_simp
      try with_reducible rfl
    try simp only [Act.put, List.setIfInBounds_toArray, List.set_cons_zero, List.set_cons_succ]
    refine wpAnyH_take (i := 23) (oi := ⟨_, _, _, _, _, _⟩) (v := ?_) rfl (by kernel_rfl) (by kernel_rfl) (by kernel_rfl) (fun _ _ _ h => h) (Or.inl ⟨by rfl, ?_⟩) (by assumption) ?_
    rotate_left
    · intro w hSw
      (try dsimp only at hSw)
      go_split_ands
      go_simp
      try with_reducible rfl
    try simp only [Act.put, List.setIfInBounds_toArray, List.set_cons_zero, List.set_cons_succ]
    refine wpAnyH_take (i := 24) (oi := ⟨_, _, _, _, _, _⟩) (v := ?_) rfl (by kernel_rfl) (by kernel_rfl) (by kernel_rfl) (fun _ _ _ h => h) (Or.inl ⟨by rfl, ?_⟩) (by assumption) ?_
    rotate_left
    · intro w hSw
      (try dsimp only at hSw)
      go_split_ands
      go_simp
      try with_reducible rfl
    try simp only [Act.put, List.setIfInBounds_toArray, List.set_cons_zero, List.set_cons_succ]
    refine wpAnyH_take (i := 25) (oi := ⟨_, _, _, _, _, _⟩) (v := ?_) rfl (by kernel_rfl) (by kernel_rfl) (by kernel_rfl) (fun _ _ _ h => h) (Or.inl ⟨by rfl, ?_⟩) (by assumption) ?_
    rotate_left
    · intro w hSw
      (try dsimp only at hSw)
      go_split_ands
      go_simp
      try with_reducible rfl
    try simp only [Act.put, List.setIfInBounds_toArray, List.set_cons_zero, List.set_cons_succ]
    refine wpAnyH_take (i := 26) (oi := ⟨_, _, _, _, _, _⟩) (v := ?_) rfl (by kernel_rfl) (by kernel_rfl) (by kernel_rfl) (fun _ _ _ h => h) (Or.inl ⟨by rfl, ?_⟩) (by assumption) ?_
    rotate_left
    · intro w hSw
      (try dsimp only at hSw)
      go_split_ands
      go_simp
      try with_reducible rfl
    try simp only [Act.put, List.setIfInBounds_toArray, List.set_cons_zero, List.set_cons_succ]
    refine wpAnyH_ready (rs := [27]) (by kernel_rfl) (by simp) (AllReadyH.cons (o := ⟨_, _, _, _, _, _⟩) rfl (fun K hK => ?_) AllReadyH.nil)
    go_simp
    have HB7 := HB4.out.trans (hb7'.mono HB4.out.size)
    have HS8 := same_c y' y' (fun b => b < w7.heap.size) (fun b => b < w7.heap.size) _ _ w7 ((HV2.out.keep fun p hp => HB7.cell hp).more fun b hb => Nat.lt_of_lt_of_le hb HB7.size) ((HV4.out.keep fun p hp => hb7'.cell hp.2).more fun b hb => Nat.lt_of_lt_of_le hb.2 hb7'.size) (fun b h => h) (fun b h => h)
    rw [sameV_self] at HS8
    refine HS8.mono ?_
    rintro e' w9 ⟨rfl, hb9⟩
    have hb9' : Below w4.heap.size w4 w9 := hb7'.trans (hb9.mono hb7'.size)
    (try dsimp only)
    refine hK.out _ _ (HSS.out _ hb9') (fun hHeld5 => ?_)
    clear hK K hHeld4 HS8
    try simp only [Act.put, List.setIfInBounds_toArray, List.set_cons_zero, List.set_cons_succ]
    refine wpAnyH_take (i := 28) (oi := ⟨_, _, _, _, _, _⟩) (v := ?_) rfl (by kernel_rfl) (by kernel_rfl) (by kernel_rfl) (fun _ _ _ h => h) (Or.inl ⟨by rfl, ?_⟩) (by assumption) ?_
    rotate_left
    · intro w hSw
      (try dsimp only at hSw)
      go_split_ands
      go_simp
      try with_reducible rfl
    try simp only [Act.put, List.setIfInBounds_toArray, List.set_cons_zero, List.set_cons_succ]
    refine wpAnyH_take (i := 29) (oi := ⟨_, _, _, _, _, _⟩) (v := ?_) rfl (by kernel_rfl) (by kernel_rfl) (by kernel_rfl) (fun _ _ _ h => h) (Or.inl ⟨by rfl, ?_⟩) (by assumption) ?_
    rotate_left
    · intro w hSw
      (try dsimp only at hSw)
      go_split_ands
      go_simp
      try with_reducible rfl
    try simp only [Act.put, List.setIfInBounds_toArray, List.set_cons_zero, List.set_cons_succ]
    refine wpAnyH_done (by kernel_rfl) ?_ _
    go_wp2_with fail
    go_ret
    exact ⟨rfl, HB4.out.trans (hb9'.mono HB4.out.size)⟩
  · have hP10 : P1 = 0 := by rw [← HP1.out]; unfold endP; rw [if_neg (by rw [HE.out]; exact hE0)]
    have hP20 : P2 = 0 := by rw [← HP2.out]; unfold endP; rw [if_neg (by rw [HE.out]; exact hE0)]
    subst hP10
    subst hP20
    have hE1 : ((E : Int) == 0) = false := by rw [beq_eq_false_iff_ne]; omega
    clear hb4
    rcases hres with ⟨-, rfl⟩ | ⟨-, LA, lc, ps, rfl, -⟩
    · go_wp2_with (first | (go_at_call 43; refine (lnum6_c _ _).mono ?_; rintro e' w' ⟨rfl, rfl⟩))
      go_ret
      exact ⟨rfl, HB4.out⟩
    · go_wp2_with (first | (go_at_call 43; refine (lnum6_c _ _).mono ?_; rintro e' w' ⟨rfl, rfl⟩))
      go_ret
      exact ⟨rfl, HB4.out⟩
end Go.Proofs.YtklpfgjnlheikaaGreatDoor

namespace Go.Proofs.YtklpfgjnlheikaaGreatDoor
open Go.ChangeShapes Go.WideShapes Go.ChangeAt Go.RowKit Go.Joins Go.Deep

set_option maxRecDepth 100000 in
theorem viewValsb {H : Type} {enc : TypeId × Value → H} {W : World} {fuel : Nat} {A : Option Addr} {n c : Nat} {y : DataW H × List MemPlace}
    (h : DataW.trod enc Tryz.prog W 0 (fun _ => true) true fuel 50 [.slice A n c] = some y) (hw : Fits 50 y.1) : ∃ l, RdL W (fun b => b < W.heap.size) A n l ∧ underL l + 1 ≤ Rows.uptoBulk y.1 := by
  rcases DataW.trod_slice Tryz.underlying50 h with ⟨hcs, _⟩ | ⟨a, len, cap, elems, rest, n2, _, hcs, hy3, _, hlc, hcm, hel, hee, _, _⟩
  · injection hcs with h1
    injection h1 with h1 h2
    subst h1 h2
    exact ⟨[], RdL.nil _ _ _, by have := one_bulk y.1; simp only [underL]; omega⟩
  · injection hcs with h1
    injection h1 with h1 h2
    subst h1 h2
    rw [hy3] at hw
    have hfr := fits_row hw
    have hln : n ≤ 140737488355328 := by have := hfr.1; omega
    have hall : ∀ i, i < n → ∃ q : List Value × VT, W.cells? 0 (a.add (i * 7)) 7 = some q.1 ∧ VIn W (fun b => b < W.heap.size) q.2 q.1 ∧ ∀ d, (elems.map (·.1))[i]? = some d → under q.2 + 1 ≤ Rows.uptoBulk d := by
      intro i hi
      have h2 := hee i hi
      rw [cellsVal, List.getElem?_eq_getElem (by omega), Option.bind_eq_some_iff] at h2
      obtain ⟨cs', h5, h6⟩ := h2
      obtain ⟨x, hxx, hub⟩ := viewVb n2 h6 (hfr.2 _ (List.getElem_mem _))
      refine ⟨(cs', x), h5, hxx, fun d hd => ?_⟩
      rw [List.getElem?_map, List.getElem?_eq_getElem (by omega)] at hd
      injection hd with hd
      subst hd
      exact hub
    have hdef : Inhabited (List Value × VT) := ⟨([], .mk 0 false [] 0 ⟨#[]⟩ [] [])⟩
    obtain ⟨Q, hQ⟩ := choose_lt hall
    refine ⟨(List.range n).map fun i => (Q i).2, ⟨by simp, by omega, fun i => (Q i).1, fun h0 => ?_, fun i x hi => ?_⟩, ?_⟩
    · obtain ⟨b, off, sp⟩ := a
      obtain ⟨_, hl0, hc0⟩ := World.cells?_some (hQ 0 h0).1
      have h2 := hc0 0 (by omega)
      rw [List.getElem?_eq_getElem (by omega)] at h2
      have hsp : sp = none := by simpa [Addr.add] using World.cell?_spot h2
      subst hsp
      refine ⟨b, off, rfl, by simpa [Addr.add] using World.block_lt_of_cell? W _ h2, fun i hi => ?_⟩
      obtain ⟨_, hl1, hc1⟩ := World.cells?_some (hQ i hi).1
      refine ⟨hl1, fun j hj => ?_⟩
      have := hc1 j hj
      rwa [Addr.add_lit, Addr.add_lit, Nat.add_assoc] at this
    · obtain ⟨hi2, rfl⟩ := List.getElem?_eq_some_iff.1 hi
      have hil : i < n := by simpa using hi2
      simpa using (hQ i hil).2.1
    · have h9 := underL_bulk ((List.range n).map fun i => (Q i).2) (elems.map (·.1)) (by simp; omega) (fun i x d hi hd => by
        obtain ⟨hi2, rfl⟩ := List.getElem?_eq_some_iff.1 hi
        have hil : i < n := by simpa using hi2
        simpa using (hQ i hil).2.2 d hd)
      have h8 := bulk_slice elems rest
      rw [hy3]
      simp only [Rows.uptoBulk] at h8 ⊢
      omega
end Go.Proofs.YtklpfgjnlheikaaGreatDoor
