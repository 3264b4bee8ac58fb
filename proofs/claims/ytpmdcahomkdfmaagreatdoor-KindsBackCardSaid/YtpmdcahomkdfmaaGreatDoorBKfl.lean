/-
  Contracts of Type, of a list without values, and of Length; the page's example of kinds answers true.
  Lists made flat; contract of kinds.flat.
-/
import Derived.Test.YtpmdcahomkdfmaaGreatDoorBKln
import Derived.Test.YtpmdcahomkdfmaaGreatDoorBKck
import Derived.Laws.AppendOwnNone
set_option linter.unusedVariables false
set_option linter.unusedSimpArgs false
namespace Go.Proofs.YtpmdcahomkdfmaaGreatDoor
open Go.RowKit Go.Lib

theorem lnum12_c (z : Int) (w : World) : Calls Tryz.prog 7 #[.int .i64 z] w fun e w' => e = .returned (.int .i64 z) ∧ w = w' := by
  go_enter Tryz.func7, Tryz.ntmps7
  go_wp2_with fail
  go_ret
  exact ⟨rfl, rfl⟩
theorem ok5K : errV (listV []) = 0 := by kernel_rfl
theorem vin5K (w : World) (S : Nat → Prop) : VIn w S (listV []) [.int .i64 5, .bool false, .slice none 0 0, .int .i64 0, .string ⟨#[]⟩, .slice none 0 0, .slice none 0 0] := listV_in (RdL.nil _ _ _) (by omega) (by omega)
set_option maxRecDepth 1000000 in
set_option maxHeartbeats 4000000 in
theorem type5_c (w : World) (hT : Tabs w) : Calls Tryz.prog 12 #[.agg #[.int .i64 5, .bool false, .slice none 0 0, .int .i64 0, .string ⟨#[]⟩, .slice none 0 0, .slice none 0 0]] w fun e w' => e = .returned (.tuple #[.string ⟨#[97, 114, 114, 97, 121]⟩, .int .i64 0]) ∧ Below w.heap.size w w' := by
  obtain ⟨vb, hvb⟩ : ∃ b, w.heap.size = b := ⟨_, rfl⟩
  obtain ⟨w1, hw1⟩ : ∃ w1, w.alloc (.cells #[.int .i64 5, .bool false, .slice none 0 0, .int .i64 0, .string ⟨#[]⟩, .slice none 0 0, .slice none 0 0] 28) = w1 := ⟨_, rfl⟩
  have hb1 : Below vb w w1 := by rw [← hw1]; exact (Below.refl vb w).alloc (by omega) _
  have h0 : w1.heap[vb]? = some (.cells #[.int .i64 5, .bool false, .slice none 0 0, .int .i64 0, .string ⟨#[]⟩, .slice none 0 0, .slice none 0 0] 28) := by rw [← hw1, ← hvb]; exact World.alloc_heap_new _ _
  have hs1 : w1.heap.size = vb + 1 := by rw [← hw1, World.size_alloc, hvb]
  obtain ⟨w2, hw2⟩ : ∃ w2, w1.alloc (.cells #[.int .i64 5, .bool false, .slice none 0 0, .int .i64 0, .string ⟨#[]⟩, .slice none 0 0, .slice none 0 0] 28) = w2 := ⟨_, rfl⟩
  have hb2 : Below (vb + 1) w1 w2 := by rw [← hw2]; exact (Below.refl _ w1).alloc (by omega) _
  have hr2 : w2.heap[vb + 1]? = some (.cells #[.int .i64 5, .bool false, .slice none 0 0, .int .i64 0, .string ⟨#[]⟩, .slice none 0 0, .slice none 0 0] 28) := by rw [← hw2, ← hs1]; exact World.alloc_heap_new _ _
  have hs2 : w2.heap.size = vb + 2 := by rw [← hw2, World.size_alloc, hs1]
  have hrow := row_oneK (S := fun b => b = vb + 1) (cs := [.int .i64 5, .bool false, .slice none 0 0, .int .i64 0, .string ⟨#[]⟩, .slice none 0 0, .slice none 0 0]) hr2 rfl (vin5K w2 _)
  have hck := kcheck_c (c := 1) w2 ((hT.below (hvb ▸ hb1)).below (hb2.mono (by omega))) hrow (fun b hb => by omega)
  rw [errK_one, ok5K] at hck
  obtain ⟨y0, y1, y2, y3, y4, y5, y6⟩ := box7_of h0
  have HCK := Lib.hid hck
  have HW1 := Lib.hid hw1
  have HW2 := Lib.hid hw2
  have H0 := Lib.hid ((hb2.block vb (by omega)).trans h0)
  have HB2 := Lib.hid (hb1.trans (hb2.mono (by omega)))
  have HS2 := Lib.hid hs2
  have hs1' := hs1
  rw [hvb]
  clear hck hw1 hw2 hb1 hb2 h0 hr2 hs1 hs2 hrow hT
  go_enter Tryz.func12, Tryz.ntmps12
  go_upto_region 1 with fail
  try rw [hvb]
  clear hvb
  rw [HW1.out]
  go_wp2_with fail
  try rw [hs1']
  rw [HW2.out]
  refine HCK.out.mono ?_
  rintro e9 w3 ⟨rfl, hb3⟩
  rw [HS2.out] at hb3
  have hm3 := (hb3.block vb (by omega)).trans H0.out
  have hs3 : vb + 2 ≤ w3.heap.size := by have := hb3.size; rw [HS2.out] at this; exact this
  clear y0 y1 y2 y3 y4 y5 y6 hs1'
  obtain ⟨tb, htb⟩ : ∃ b, w3.heap.size = b := ⟨_, rfl⟩
  obtain ⟨w4, hw4⟩ : ∃ w4, w3.alloc (.cells #[.string ⟨#[110, 117, 108, 108]⟩, .string ⟨#[98, 111, 111, 108, 101, 97, 110]⟩, .string ⟨#[98, 111, 111, 108, 101, 97, 110]⟩, .string ⟨#[110, 117, 109, 98, 101, 114]⟩, .string ⟨#[115, 116, 114, 105, 110, 103]⟩, .string ⟨#[97, 114, 114, 97, 121]⟩, .string ⟨#[111, 98, 106, 101, 99, 116]⟩] 60) = w4 := ⟨_, rfl⟩
  have hb4 : Below tb w3 w4 := by rw [← hw4]; exact (Below.refl _ w3).alloc (by omega) _
  have ht4 : w4.heap[tb]? = some (.cells #[.string ⟨#[110, 117, 108, 108]⟩, .string ⟨#[98, 111, 111, 108, 101, 97, 110]⟩, .string ⟨#[98, 111, 111, 108, 101, 97, 110]⟩, .string ⟨#[110, 117, 109, 98, 101, 114]⟩, .string ⟨#[115, 116, 114, 105, 110, 103]⟩, .string ⟨#[97, 114, 114, 97, 121]⟩, .string ⟨#[111, 98, 106, 101, 99, 116]⟩] 60) := by rw [← hw4, ← htb]; exact World.alloc_heap_new _ _
  have hm4 := (hb4.block vb (by omega)).trans hm3
  have y0 : w4.cell? ⟨vb, 0, none⟩ = some (.int .i64 5) := cell_at3 hm4 rfl
  have t5 : w4.cell? ⟨tb, 5, none⟩ = some (.string ⟨#[97, 114, 114, 97, 121]⟩) := cell_at3 ht4 rfl
  have HB4 := Lib.hid ((HB2.out.trans (hb3.mono (by omega))).trans (hb4.mono (by omega)))
  have HW4 := Lib.hid hw4
  have hs4 : vb ≤ w4.heap.size := by have := hb4.size; omega
  clear hb3 hb4 ht4 hm3 hm4 hw4
  go_upto_region 5 with fail
  try rw [htb]
  rw [HW4.out]
  go_wp2_with fail
  refine (clone_c ⟨#[97, 114, 114, 97, 121]⟩ w4 (by decide)).mono ?_
  rintro e9 w5 ⟨rfl, hb5⟩
  go_wp2_with fail
  go_ret2
  exact ⟨rfl, HB4.out.trans (hb5.mono hs4)⟩
set_option maxRecDepth 1000000 in
set_option maxHeartbeats 4000000 in
theorem length_c {S : Nat → Prop} {x : VT} {cs : List Value} (w : World) (hT : Tabs w) (hx : VIn w S x cs) (hS : ∀ b, S b → b < w.heap.size) :
    Calls Tryz.prog 10 #[.agg cs.toArray] w fun e w' => WoP (WoV (errV x) (lenE x) (lenY x)) (WoR (errV x) (lenE x) (lenY x)) w.heap.size e w' ∧ Below w.heap.size w w' := by
  have hmf : ∀ (fn : Fn) (first cap : Array Value) (w : World), (Instr.makeFunc fn first cap).run Tryz.prog w = .ok (.func fn first cap) w := fun _ _ _ _ => rfl
  obtain ⟨k, neg, A, n, c, e, t, LA, ln, lc, KA, kn, kc, rfl, -, -⟩ := hx.seven
  obtain ⟨vb, hvb⟩ : ∃ b, w.heap.size = b := ⟨_, rfl⟩
  obtain ⟨w3, hw3⟩ : ∃ w3, (w.alloc (.cells #[.int .i64 k, .bool neg, .slice A n c, .int .i64 e, .string t, .slice LA ln lc, .slice KA kn kc] 28)).alloc (.cells #[.int .i64 0, .bool false, .slice none 0 0, .int .i64 0, .string ⟨#[]⟩, .slice none 0 0, .slice none 0 0] 28) = w3 := ⟨_, rfl⟩
  have hb3 : Below vb w w3 := by
    rw [← hw3]
    exact ((Below.refl vb w).alloc (by omega) _).alloc (by rw [World.size_alloc]; omega) _
  have hs3 : w3.heap.size = vb + 2 := by rw [← hw3, World.size_alloc, World.size_alloc]; omega
  have h0 : w3.heap[vb]? = some (.cells #[.int .i64 k, .bool neg, .slice A n c, .int .i64 e, .string t, .slice LA ln lc, .slice KA kn kc] 28) := by
    rw [← hw3, Below.heap_alloc _ _ _ (by simp; omega), ← hvb]; exact World.alloc_heap_new _ _
  have h2 : w3.heap[vb + 1]? = some (.cells #[.int .i64 0, .bool false, .slice none 0 0, .int .i64 0, .string ⟨#[]⟩, .slice none 0 0, .slice none 0 0] 28) := by
    rw [← hw3]
    have := World.alloc_heap_new (w.alloc (.cells #[.int .i64 k, .bool neg, .slice A n c, .int .i64 e, .string t, .slice LA ln lc, .slice KA kn kc] 28)) (.cells #[.int .i64 0, .bool false, .slice none 0 0, .int .i64 0, .string ⟨#[]⟩, .slice none 0 0, .slice none 0 0] 28)
    rwa [World.size_alloc, hvb] at this
  have hx3 := hx.keep (w' := w3) fun p hp => hb3.cell (p := p) (by have := hS _ hp; omega)
  have hT3 := hT.below (hvb ▸ hb3)
  obtain ⟨w4, hw4⟩ : ∃ w4, w3.alloc (.cells #[.int .i64 k, .bool neg, .slice A n c, .int .i64 e, .string t, .slice LA ln lc, .slice KA kn kc] 28) = w4 := ⟨_, rfl⟩
  have hb4 : Below (vb + 2) w3 w4 := by rw [← hw4]; exact (Below.refl _ w3).alloc (by omega) _
  have hr4 : w4.heap[vb + 2]? = some (.cells #[.int .i64 k, .bool neg, .slice A n c, .int .i64 e, .string t, .slice LA ln lc, .slice KA kn kc] 28) := by
    rw [← hw4, ← hs3]; exact World.alloc_heap_new _ _
  have hs4 : w4.heap.size = vb + 3 := by rw [← hw4, World.size_alloc, hs3]
  have hx4 := (hx3.keep (w' := w4) fun p hp => hb4.cell (p := p) (by have := hS _ hp; omega))
  have hrow := row_oneK (S := fun b => b < vb + 3) hr4 (by omega) (hx4.more fun b hb => by have := hS b hb; omega)
  have hwo := workOut_c (c := 1) (fn := 28) (caps := #[.pointer (some ⟨vb, 0, none⟩)]) (y := lenY x) (E := lenE x) w4 (hT3.below (hb4.mono (by omega))) hrow (fun b hb => by omega) (fun ar W => by kernel_rfl)
    (fun hok W hW => length1_c vb W ((hT3.below (hb4.mono (by omega))).below hW) (by rw [errK_one] at hok; exact hok) (hx4.keep (w' := W) fun p hp => hW.cell (p := p) (by have := hS _ hp; omega)) (fun b hb => by have := hS b hb; have := hW.size; omega) ((hW.block vb (by omega)).trans ((hb4.block vb (by omega)).trans h0)))
  rw [errK_one] at hwo
  obtain ⟨y0, y1, y2, y3, y4, y5, y6⟩ := box7_of h0
  have HWO := Lib.hid hwo
  have HW3 := Lib.hid hw3
  have HW4 := Lib.hid hw4
  have HB4 := Lib.hid (hb3.trans (hb4.mono (by omega)))
  have H2 := Lib.hid ((hb4.block (vb + 1) (by omega)).trans h2)
  have HS4 := Lib.hid hs4
  have HVB := Lib.hid hvb
  have hs3' := hs3
  rw [hvb]
  obtain ⟨Y, hY⟩ : ∃ Y, WoV (errV x) (lenE x) (lenY x) = Y := ⟨_, rfl⟩
  obtain ⟨R, hR⟩ : ∃ R, WoR (errV x) (lenE x) (lenY x) = R := ⟨_, rfl⟩
  rw [hY, hR] at HWO ⊢
  clear hwo hw3 hw4 hb3 hb4 h0 h2 hs3 hs4 hx hx3 hx4 hrow hr4 hT hT3 hS hY hR
  go_enter Tryz.func10, Tryz.ntmps10
  go_upto_region 1 with fail
  try rw [hvb]
  clear hvb
  rw [HW3.out]
  go_wp2_with fail
  try rw [hs3']
  rw [HW4.out]
  refine HWO.out.mono ?_
  rintro e9 w5 ⟨⟨cs', rfl, hv⟩, hb5⟩
  rw [HS4.out] at hv hb5
  obtain ⟨k3, neg3, A3, n3, c3, ex3, t3, LA3, ln3, lc3, KA3, kn3, kc3, rfl, -, -⟩ := hv.seven
  have hm5 := (hb5.block (vb + 1) (by omega)).trans H2.out
  have hs5 : vb + 3 ≤ w5.heap.size := by have := hb5.size; rw [HS4.out] at this; exact this
  clear y0 y1 y2 y3 y4 y5 y6 hs3'
  obtain ⟨z0, z1, z2, z3, z4, z5, z6⟩ := box7_of hm5
  have fz : ∀ j, w5.frozen? ⟨vb + 1, j, none⟩ = false := fun j => frozen_of_row _ _ j _ _ hm5
  have HV := Lib.hid hv
  have HB5 := Lib.hid (HB4.out.trans (hb5.mono (by omega)))
  clear hv hb5 hm5
  go_wp2_with fail
  refine bodyPost_ret (v := .tuple #[.agg #[.int .i64 k3, .bool neg3, .slice A3 n3 c3, .int .i64 ex3, .string t3, .slice LA3 ln3 lc3, .slice KA3 kn3 kc3], .int .i64 (R : Int)]) (by simp [results, Tryz.results10, go_sem, z0, z1, z2, z3, z4, z5, z6]) rfl ?_
  refine ⟨⟨[.int .i64 k3, .bool neg3, .slice A3 n3 c3, .int .i64 ex3, .string t3, .slice LA3 ln3 lc3, .slice KA3 kn3 kc3], rfl, (HV.out.keep fun p hp => cell_seven (by have := hp.1; omega) _ _ _ _ _ _ _).more fun b hb => ⟨by have := hb.1; omega, ?_⟩⟩, below_seven HB5.out (by omega) _ _ _ _ _ _ _⟩
  have := hb.2
  simpa [World.setCell] using this
theorem okm3K : WoR (errV (numT (-3))) (lenE (numT (-3))) (lenY (numT (-3))) = 0 := by kernel_rfl
theorem vm3K : sameV (WoV (errV (numT (-3))) (lenE (numT (-3))) (lenY (numT (-3)))) (numT 3) = true := by kernel_rfl
set_option maxRecDepth 4000000 in
set_option maxHeartbeats 8000000 in
theorem alive12_c (w : World) (hT : Tabs w) : Calls Tryz.prog 4 #[] w fun e w' => e = .returned (.bool true) ∧ Below w.heap.size w w' := by
  have hb5 : ∀ W, (Instr.build 28 #[(0, .int .i64 5)]).run Tryz.prog W = .ok (.agg #[.int .i64 5, .bool false, .slice none 0 0, .int .i64 0, .string ⟨#[]⟩, .slice none 0 0, .slice none 0 0]) W := fun W => run_build W 28 _ _ (by kernel_rfl)
  have HT := Lib.hid hT
  clear hT
  go_enter Tryz.func4, Tryz.ntmps4
  go_wp2_with fail
  refine (rnum_c w (-3) (by decide) (by decide) (numT_lenK (-3))).mono ?_
  rintro e9 w1 ⟨cs1, rfl, hv1, hb1⟩
  have hle := length_c w1 (HT.out.below hb1) (x := numT (-3)) hv1 (fun b hb => hb.2)
  rw [okm3K] at hle
  obtain ⟨k1, neg1, A1, n1, c1, ex1, t1, LA1, ln1, lc1, KA1, kn1, kc1, rfl, -, -⟩ := hv1.seven
  have HLE := Lib.hid hle
  have HB1 := Lib.hid hb1
  clear hle hv1 hb1
  go_wp2_with fail
  refine HLE.out.mono ?_
  rintro e9 w2 ⟨⟨cs2, rfl, hv2⟩, hb2⟩
  rw [sameV_iff.1 vm3K] at hv2
  obtain ⟨k3, neg3, A3, n3, c3, ex3, t3, LA3, ln3, lc3, KA3, kn3, kc3, rfl, -, -⟩ := hv2.seven
  have hB2 := HB1.out.trans (hb2.mono HB1.out.size)
  obtain ⟨ab, hab⟩ : ∃ b, w2.heap.size = b := ⟨_, rfl⟩
  obtain ⟨w3, hw3⟩ : ∃ w3, w2.alloc (.cells #[.int .i64 k3, .bool neg3, .slice A3 n3 c3, .int .i64 ex3, .string t3, .slice LA3 ln3 lc3, .slice KA3 kn3 kc3] 28) = w3 := ⟨_, rfl⟩
  have hb3 : Below ab w2 w3 := by rw [← hw3]; exact (Below.refl _ w2).alloc (by omega) _
  have hm3 : w3.heap[ab]? = some (.cells #[.int .i64 k3, .bool neg3, .slice A3 n3 c3, .int .i64 ex3, .string t3, .slice LA3 ln3 lc3, .slice KA3 kn3 kc3] 28) := by rw [← hw3, ← hab]; exact World.alloc_heap_new _ _
  have hs3 : w3.heap.size = ab + 1 := by rw [← hw3, World.size_alloc, hab]
  have hv3 := (hv2.keep (w' := w3) fun p hp => hb3.cell (p := p) (by have := hp.2; omega)).more (S' := fun b => b < ab) fun b hb => by have := hb.2; omega
  have hwa : w.heap.size ≤ ab := by have := hB2.size; omega
  have HW3 := Lib.hid hw3
  have HV3 := Lib.hid hv3
  have HB3 := Lib.hid (hB2.trans (hb3.mono hwa))
  have HM3 := Lib.hid hm3
  have HS3 := Lib.hid hs3
  clear hB2 hb2 hb3 hv2 hw3 hv3 hm3 hs3 HLE
  go_upto_region 2 with fail
  try rw [hab]
  clear hab
  rw [HW3.out]
  go_wp2_with fail
  refine (type5_c w3 (HT.out.below HB3.out)).mono ?_
  rintro e9 w4 ⟨rfl, hb4⟩
  rw [HS3.out] at hb4
  have hm4 := (hb4.block ab (by omega)).trans HM3.out
  have HV4 := Lib.hid (HV3.out.keep (w' := w4) fun p hp => hb4.cell (p := p) (by omega))
  have HB4 := Lib.hid (HB3.out.trans (hb4.mono (by omega)))
  have HM4 := Lib.hid hm4
  have hs4 : ab + 1 ≤ w4.heap.size := by have := hb4.size; rw [HS3.out] at this; exact this
  obtain ⟨z0, z1, z2, z3, z4, z5, z6⟩ := box7_of hm4
  clear hb4 hm4
  go_upto_region 3 with fail
  refine wp_region_held_drew (S := fun V => V.cell? ⟨ab, 0, none⟩ = some (.int .i64 k3) ∧ V.cell? ⟨ab, 1, none⟩ = some (.bool neg3) ∧ V.cell? ⟨ab, 2, none⟩ = some (.slice A3 n3 c3) ∧ V.cell? ⟨ab, 3, none⟩ = some (.int .i64 ex3) ∧ V.cell? ⟨ab, 4, none⟩ = some (.string t3) ∧ V.cell? ⟨ab, 5, none⟩ = some (.slice LA3 ln3 lc3) ∧ V.cell? ⟨ab, 6, none⟩ = some (.slice KA3 kn3 kc3)) (by kernel_rfl) ⟨z0, z1, z2, z3, z4, z5, z6⟩ (fun hHeld => ?_)
  (try simp only [List.size_toArray, List.length_cons, List.length_nil, Nat.reduceAdd, Array.replicate_succ, Array.replicate_zero, List.push_toArray, List.append_toArray, List.nil_append, List.cons_append])
  refine wpAnyH_take (i := 0) (oi := ⟨_, _, _, _, _, _⟩) (v := ?_) rfl (by kernel_rfl) (by kernel_rfl) (by kernel_rfl) (fun _ _ _ h => h) (Or.inl ⟨by rfl, ?_⟩) (by assumption) ?_
  rotate_left
  · intro w hSw
    (try dsimp only at hSw)
    go_split_ands
    go_simp
    try with_reducible rfl
  try simp only [Act.put, List.setIfInBounds_toArray, List.set_cons_zero, List.set_cons_succ]
  refine wpAnyH_take (i := 2) (oi := ⟨_, _, _, _, _, _⟩) (v := ?_) rfl (by kernel_rfl) (by kernel_rfl) (by kernel_rfl) (fun _ _ _ h => h) (Or.inl ⟨by rfl, ?_⟩) (by assumption) ?_
  rotate_left
  · intro w hSw
    (try dsimp only at hSw)
    go_split_ands
    go_simp
    try with_reducible rfl
  try simp only [Act.put, List.setIfInBounds_toArray, List.set_cons_zero, List.set_cons_succ]
  refine wpAnyH_ready (rs := [1]) (by kernel_rfl) (by simp) (AllReadyH.cons (o := ⟨_, _, _, _, _, _⟩) rfl (fun K hK => ?_) AllReadyH.nil)
  go_simp
  refine (lnum12_c _ _).mono ?_
  rintro e9 w' ⟨rfl, rfl⟩
  (try dsimp only)
  refine hK _ _ ⟨z0, z1, z2, z3, z4, z5, z6⟩ (fun hHeld2 => ?_)
  clear hK K
  try simp only [Act.put, List.setIfInBounds_toArray, List.set_cons_zero, List.set_cons_succ]
  refine wpAnyH_ready (rs := [3]) (by kernel_rfl) (by simp) (AllReadyH.cons (o := ⟨_, _, _, _, _, _⟩) rfl (fun K hK => ?_) AllReadyH.nil)
  go_simp
  refine (lnum12_c _ _).mono ?_
  rintro e9 w' ⟨rfl, rfl⟩
  (try dsimp only)
  refine hK _ _ ⟨z0, z1, z2, z3, z4, z5, z6⟩ (fun hHeld3 => ?_)
  clear hK K
  try simp only [Act.put, List.setIfInBounds_toArray, List.set_cons_zero, List.set_cons_succ]
  refine wpAnyH_take (i := 4) (oi := ⟨_, _, _, _, _, _⟩) (v := ?_) rfl (by kernel_rfl) (by kernel_rfl) (by kernel_rfl) (fun _ _ _ h => h) (Or.inl ⟨by rfl, ?_⟩) (by assumption) ?_
  rotate_left
  · intro w hSw
    (try dsimp only at hSw)
    go_split_ands
    go_simp
    try with_reducible rfl
  try simp only [Act.put, List.setIfInBounds_toArray, List.set_cons_zero, List.set_cons_succ]
  refine wpAnyH_take (i := 5) (oi := ⟨_, _, _, _, _, _⟩) (v := ?_) rfl (by kernel_rfl) (by kernel_rfl) (by kernel_rfl) (fun _ _ _ h => h) (Or.inl ⟨by rfl, ?_⟩) (by assumption) ?_
  rotate_left
  · intro w hSw
    (try dsimp only at hSw)
    go_split_ands
    go_simp
    try with_reducible rfl
  try simp only [Act.put, List.setIfInBounds_toArray, List.set_cons_zero, List.set_cons_succ]
  refine wpAnyH_take (i := 6) (oi := ⟨_, _, _, _, _, _⟩) (v := ?_) rfl (by kernel_rfl) (by kernel_rfl) (by kernel_rfl) (fun _ _ _ h => h) (Or.inl ⟨by rfl, ?_⟩) (by assumption) ?_
  rotate_left
  · intro w hSw
    (try dsimp only at hSw)
    go_split_ands
    go_simp
    try with_reducible rfl
  try simp only [Act.put, List.setIfInBounds_toArray, List.set_cons_zero, List.set_cons_succ]
  refine wpAnyH_take (i := 7) (oi := ⟨_, _, _, _, _, _⟩) (v := ?_) rfl (by kernel_rfl) (by kernel_rfl) (by kernel_rfl) (fun _ _ _ h => h) (Or.inl ⟨by rfl, ?_⟩) (by assumption) ?_
  rotate_left
  · intro w hSw
    (try dsimp only at hSw)
    go_split_ands
    go_simp
    try with_reducible rfl
  try simp only [Act.put, List.setIfInBounds_toArray, List.set_cons_zero, List.set_cons_succ]
  refine wpAnyH_ready (rs := [8]) (by kernel_rfl) (by simp) (AllReadyH.cons (o := ⟨_, _, _, _, _, _⟩) rfl (fun K hK => ?_) AllReadyH.nil)
  go_simp
  refine (rnum_c _ 3 (by decide) (by decide) (numT_lenK 3)).mono ?_
  rintro e9 w5 ⟨cs5, rfl, hv5, hb5'⟩
  (try dsimp only)
  have hb5'' : Below w4.heap.size w4 w5 := ⟨hb5'.os, hb5'.tape, hb5'.output, hb5'.size, hb5'.block⟩
  have hm5 := (hb5''.block ab (by omega)).trans HM4.out
  have hv5' : VIn w5 (Own' w4.heap.size w5) (numT 3) cs5 := hv5
  obtain ⟨k5, neg5, A5, n5, c5, ex5, t5, LA5, ln5, lc5, KA5, kn5, kc5, rfl, -, -⟩ := hv5'.seven
  obtain ⟨x0, x1, x2, x3, x4, x5, x6⟩ := box7_of hm5
  have HSM := Lib.hid (same_c (numT 3) (numT 3) _ _ _ _ w5 (HV4.out.keep (w' := w5) fun p hp => hb5''.cell (p := p) (by omega)) hv5' (fun b hb => by have := hb5''.size; omega) (fun b hb => hb.2))
  have HB5 := Lib.hid (HB4.out.trans (hb5''.mono (by omega)))
  have HM5 := Lib.hid hm5
  have hs5 : ab + 1 ≤ w5.heap.size := by have := hb5''.size; omega
  refine hK _ _ ⟨x0, x1, x2, x3, x4, x5, x6⟩ (fun hHeld4 => ?_)
  clear hK K hb5' hb5'' hv5 hv5' hm5
  try simp only [Act.put, List.setIfInBounds_toArray, List.set_cons_zero, List.set_cons_succ]
  refine wpAnyH_ready (rs := [9]) (by kernel_rfl) (by simp) (AllReadyH.cons (o := ⟨_, _, _, _, _, _⟩) rfl (fun K hK => ?_) AllReadyH.nil)
  go_simp
  refine HSM.out.mono ?_
  rintro e9 w6 ⟨rfl, hb6⟩
  (try dsimp only)
  rw [show sameV (numT 3) (numT 3) = true from sameV_iff.2 rfl]
  have hm6 := (hb6.block ab (by omega)).trans HM5.out
  obtain ⟨u0, u1, u2, u3, u4, u5, u6⟩ := box7_of hm6
  have HB6 := Lib.hid (HB5.out.trans (hb6.mono (by omega)))
  refine hK _ _ ⟨u0, u1, u2, u3, u4, u5, u6⟩ (fun hHeld5 => ?_)
  clear hK K hb6 hm6
  try simp only [Act.put, List.setIfInBounds_toArray, List.set_cons_zero, List.set_cons_succ]
  refine wpAnyH_take (i := 10) (oi := ⟨_, _, _, _, _, _⟩) (v := ?_) rfl (by kernel_rfl) (by kernel_rfl) (by kernel_rfl) (fun _ _ _ h => h) (Or.inl ⟨by rfl, ?_⟩) (by assumption) ?_
  rotate_left
  · intro w hSw
    (try dsimp only at hSw)
    go_split_ands
    go_simp
    try with_reducible rfl
  try simp only [Act.put, List.setIfInBounds_toArray, List.set_cons_zero, List.set_cons_succ]
  refine wpAnyH_take (i := 11) (oi := ⟨_, _, _, _, _, _⟩) (v := ?_) rfl (by kernel_rfl) (by kernel_rfl) (by kernel_rfl) (fun _ _ _ h => h) (Or.inl ⟨by rfl, ?_⟩) (by assumption) ?_
  rotate_left
  · intro w hSw
    (try dsimp only at hSw)
    go_split_ands
    go_simp
    try with_reducible rfl
  try simp only [Act.put, List.setIfInBounds_toArray, List.set_cons_zero, List.set_cons_succ]
  refine wpAnyH_take (i := 12) (oi := ⟨_, _, _, _, _, _⟩) (v := ?_) rfl (by kernel_rfl) (by kernel_rfl) (by kernel_rfl) (fun _ _ _ h => h) (Or.inl ⟨by rfl, ?_⟩) (by assumption) ?_
  rotate_left
  · intro w hSw
    (try dsimp only at hSw)
    go_split_ands
    go_simp
    try with_reducible rfl
  try simp only [Act.put, List.setIfInBounds_toArray, List.set_cons_zero, List.set_cons_succ]
  refine wpAnyH_take (i := 13) (oi := ⟨_, _, _, _, _, _⟩) (v := ?_) rfl (by kernel_rfl) (by kernel_rfl) (by kernel_rfl) (fun _ _ _ h => h) (Or.inl ⟨by rfl, ?_⟩) (by assumption) ?_
  rotate_left
  · intro w hSw
    (try dsimp only at hSw)
    go_split_ands
    go_simp
    try with_reducible rfl
  try simp only [Act.put, List.setIfInBounds_toArray, List.set_cons_zero, List.set_cons_succ]
  refine wpAnyH_take (i := 14) (oi := ⟨_, _, _, _, _, _⟩) (v := ?_) rfl (by kernel_rfl) (by kernel_rfl) (by kernel_rfl) (fun _ _ _ h => h) (Or.inl ⟨by rfl, ?_⟩) (by assumption) ?_
  rotate_left
  · intro w hSw
    (try dsimp only at hSw)
    go_split_ands
    go_simp
    try with_reducible rfl
  try simp only [Act.put, List.setIfInBounds_toArray, List.set_cons_zero, List.set_cons_succ]
  refine wpAnyH_take (i := 15) (oi := ⟨_, _, _, _, _, _⟩) (v := ?_) rfl (by kernel_rfl) (by kernel_rfl) (by kernel_rfl) (fun _ _ _ h => h) (Or.inl ⟨by rfl, ?_⟩) (by assumption) ?_
  rotate_left
  · intro w hSw
    (try dsimp only at hSw)
    go_split_ands
    go_simp
    try with_reducible rfl
  try simp only [Act.put, List.setIfInBounds_toArray, List.set_cons_zero, List.set_cons_succ]
  refine wpAnyH_done (by kernel_rfl) ?_ _
  go_wp2_with fail
  go_ret
  exact ⟨rfl, HB6.out⟩
end Go.Proofs.YtpmdcahomkdfmaaGreatDoor

namespace Go.Proofs.YtpmdcahomkdfmaaGreatDoor
open Go.RowKit Go.Lib

theorem ownsRow_cellK {w : World} {base : Nat} {e : TypeId} {size n g cap : Nat} {xs : List Value} (h : w.ownsRow base e size (.slice (some ⟨g, 0, none⟩) n cap) n xs) {j : Nat} {u : Value} (hj : xs[j]? = some u) : w.cell? ⟨g, j, none⟩ = some u := by
  rcases h.2 with ⟨h2, -⟩ | ⟨g', cap', cur, e1, e2, e3, e4, e5, e6, e7⟩
  · exact absurd h2 (by simp)
  · injection e1 with e1
    injection e1 with e1
    have e8 : g = g' := congrArg Addr.block e1
    subst e8
    have h3 : cur[j]? = some u := by
      rw [← e7, List.getElem?_take] at hj
      by_cases hjn : j < n * size
      · rw [if_pos hjn] at hj
        rw [← Array.getElem?_toList]; exact hj
      · rw [if_neg hjn] at hj; exact absurd hj (by simp)
    simp [World.cell?, e3, h3]
end Go.Proofs.YtpmdcahomkdfmaaGreatDoor
