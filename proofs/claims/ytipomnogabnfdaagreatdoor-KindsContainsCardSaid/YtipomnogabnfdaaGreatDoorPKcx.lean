/-
  The library's search of a text in a text tells inT.
  What kinds asks of strings.Contains, out of the shelf's contract; and that the cell of the library's one variable holds a number.
  Contract of kinds.Contains, given that of strings.Contains.
-/
import Derived.Test.YtipomnogabnfdaaGreatDoorPKcz
import Derived.Lib.Index
import Derived.Test.YtipomnogabnfdaaGreatDoorPKcu
import Derived.Test.YtipomnogabnfdaaGreatDoorShelf
import Derived.Shelf.Vars
set_option linter.unusedVariables false
set_option linter.unusedSimpArgs false
namespace Go.Proofs.YtipomnogabnfdaaGreatDoor
open Go.RowKit Go.Lib

theorem index_inT (a b : ByteArray) : decide (0 ≤ Lib.index a.data.toList b.data.toList) = inT a b := by
  by_cases h : ∃ i, i ≤ a.data.toList.length ∧ Lib.occAt a.data.toList b.data.toList i = true
  · obtain ⟨i, hi, ho⟩ := h
    have hin : inT a b = true := by
      unfold inT
      rw [List.any_eq_true]
      exact ⟨i, List.mem_range.2 (by omega), ho⟩
    rw [hin]
    have key : ∀ n i, i ≤ n → i ≤ a.data.toList.length → Lib.occAt a.data.toList b.data.toList i = true → 0 ≤ Lib.index a.data.toList b.data.toList := by
      intro n
      induction n with
      | zero =>
        intro i hin hi ho
        rw [Lib.index_first hi ho (fun j hj => absurd hj (by omega))]
        omega
      | succ n ih =>
        intro i hin hi ho
        by_cases hj : ∃ j, j < i ∧ Lib.occAt a.data.toList b.data.toList j = true
        · obtain ⟨j, hji, hjo⟩ := hj
          exact ih j (by omega) (by omega) hjo
        · rw [Lib.index_first hi ho (fun j hji => by
            cases hc : Lib.occAt a.data.toList b.data.toList j with
            | false => rfl
            | true => exact absurd ⟨j, hji, hc⟩ hj)]
          omega
    exact decide_eq_true (key i i (Nat.le_refl _) hi ho)
  · have hno : ∀ j, j ≤ a.data.toList.length → Lib.occAt a.data.toList b.data.toList j = false := fun j hj => by
      cases hc : Lib.occAt a.data.toList b.data.toList j with
      | false => rfl
      | true => exact absurd ⟨j, hj, hc⟩ h
    have hin : inT a b = false := by
      unfold inT
      rw [List.any_eq_false]
      intro i hi hp
      have := hno i (by have := List.mem_range.1 hi; omega)
      unfold Lib.occAt at this
      rw [this] at hp
      exact absurd hp (by decide)
    rw [hin, Lib.index_none hno]
    decide
end Go.Proofs.YtipomnogabnfdaaGreatDoor

namespace Go.Proofs.YtipomnogabnfdaaGreatDoor
open Go.RowKit Go.Lib

theorem maxLen_some {w : World} (h : w.ShapedOpen Tryz.prog) : ∃ m, w.cell? ⟨0, 0, none⟩ = some (.int .i64 m) :=
  cell_of_shapedOpen_int (t := 3) (zero := #[.int .i64 0]) h (of_decide_eq_true (by kernel_rfl)) (by kernel_rfl) rfl (by kernel_rfl) (by kernel_rfl) Tryz.underlying3
theorem texts_k {w : World} {m : Int} (hm : w.cell? ⟨0, 0, none⟩ = some (.int .i64 m)) : TextsK w.heap.size w := fun W hb _ s t hs =>
  (Tryz.strings_Contains s t m W (by omega) ((hb.cell (p := ⟨0, 0, none⟩) (cell_lt hm)).trans hm)).mono fun e w' ⟨he, hw⟩ => by
    subst hw
    refine ⟨?_, Below.refl _ _⟩
    rw [he, ← index_inT]
    rfl
end Go.Proofs.YtipomnogabnfdaaGreatDoor

namespace Go.Proofs.YtipomnogabnfdaaGreatDoor
open Go.RowKit Go.Lib

/-- The error that Contains tells. -/
def ctE (x y : VT) : Nat := if errK [x, y] ≠ 0 then errK [x, y] else if x.kind ≠ y.kind ∧ ¬ ((x.kind = 1 ∨ x.kind = 2) ∧ (y.kind = 1 ∨ y.kind = 2)) then 41 else 0
/-- What Contains tells. -/
def ctB (n : Nat) (x y : VT) : Bool := if ctE x y ≠ 0 then false else conF n x y
theorem errK_okK {x y : VT} (h : errK [x, y] = 0) : okV x ∧ okV y := by
  unfold errK at h
  split at h
  · rename_i h1
    exact ⟨h1, (errK_one y).symm.trans h⟩
  · rename_i h1
    exact absurd h h1
set_option maxRecDepth 100000 in
theorem isBool_c {k1 ex1 : Int} {neg1 : Bool} {A1 LA1 KA1 : Option Addr} {n1 c1 ln1 lc1 kn1 kc1 : Nat} {t1 : ByteArray} (w : World) : Calls Tryz.prog 16 #[.agg #[.int .i64 k1, .bool neg1, .slice A1 n1 c1, .int .i64 ex1, .string t1, .slice LA1 ln1 lc1, .slice KA1 kn1 kc1]] w fun e w' => e = .returned (.bool (decide (k1 = 1 ∨ k1 = 2))) ∧ Below w.heap.size w w' := by
  obtain ⟨vb, hvb⟩ : ∃ b, w.heap.size = b := ⟨_, rfl⟩
  obtain ⟨w3, hw3⟩ : ∃ w3, w.alloc (.cells #[.int .i64 k1, .bool neg1, .slice A1 n1 c1, .int .i64 ex1, .string t1, .slice LA1 ln1 lc1, .slice KA1 kn1 kc1] 28) = w3 := ⟨_, rfl⟩
  have hb3 : Below vb w w3 := by rw [← hw3]; exact (Below.refl vb w).alloc (by omega) _
  have h0 : w3.heap[vb]? = some (.cells #[.int .i64 k1, .bool neg1, .slice A1 n1 c1, .int .i64 ex1, .string t1, .slice LA1 ln1 lc1, .slice KA1 kn1 kc1] 28) := by rw [← hw3, ← hvb]; exact World.alloc_heap_new _ _
  obtain ⟨y0, y1, y2, y3, y4, y5, y6⟩ := box7_of h0
  have HW3 := Lib.hid hw3
  have HB3 := Lib.hid hb3
  rw [hvb]
  clear hw3 hb3 h0
  by_cases e1 : k1 = 1
  · subst e1
    rw [decide_eq_true (.inl rfl)]
    go_enter Tryz.func16, Tryz.ntmps16
    go_upto_region 1 with fail
    try rw [hvb]
    clear hvb
    rw [HW3.out]
    go_wp2_with fail
    go_ret
    exact ⟨rfl, HB3.out⟩
  have j1 : (k1 == 1) = false := by rw [beq_eq_false_iff_ne]; exact e1
  by_cases e2 : k1 = 2
  · subst e2
    rw [decide_eq_true (.inr rfl)]
    go_enter Tryz.func16, Tryz.ntmps16
    go_upto_region 1 with fail
    try rw [hvb]
    clear hvb
    rw [HW3.out]
    go_wp2_with fail
    go_ret
    exact ⟨rfl, HB3.out⟩
  have j2 : (k1 == 2) = false := by rw [beq_eq_false_iff_ne]; exact e2
  rw [decide_eq_false (by omega)]
  go_enter Tryz.func16, Tryz.ntmps16
  go_upto_region 1 with fail
  try rw [hvb]
  clear hvb
  rw [HW3.out]
  go_wp2_with fail
  go_ret
  exact ⟨rfl, HB3.out⟩
set_option maxRecDepth 1000000 in
set_option maxHeartbeats 8000000 in
theorem ctContains_c {B0 : Nat} {w0 : World} (hTX : TextsK B0 w0) {N : Nat} {S S' : Nat → Prop} {x y : VT} {cs ds : List Value} (w : World) (hT : Tabs w) (hN : SizeOf.sizeOf x < N) (hx : VIn w S x cs) (hy : VIn w S' y ds) (hS : ∀ b, S b → b < w.heap.size) (hS' : ∀ b, S' b → b < w.heap.size) (hB : Below B0 w0 w) (hB0 : B0 ≤ w.heap.size) :
    Calls Tryz.prog 6 #[.agg cs.toArray, .agg ds.toArray] w fun e w' => e = .returned (.tuple #[.bool (ctB N x y), .int .i64 (ctE x y : Int)]) ∧ Below w.heap.size w w' := by
  obtain ⟨k1, neg1, A1, n1, c1, ex1, t1, LA1, ln1, lc1, KA1, kn1, kc1, rfl, hk1, -⟩ := hx.seven
  obtain ⟨k2, neg2, A2, n2, c2, ex2, t2, LA2, ln2, lc2, KA2, kn2, kc2, rfl, hk2, -⟩ := hy.seven
  obtain ⟨vb, hvb⟩ : ∃ b, w.heap.size = b := ⟨_, rfl⟩
  obtain ⟨w3, hw3⟩ : ∃ w3, (w.alloc (.cells #[.int .i64 k1, .bool neg1, .slice A1 n1 c1, .int .i64 ex1, .string t1, .slice LA1 ln1 lc1, .slice KA1 kn1 kc1] 28)).alloc (.cells #[.int .i64 k2, .bool neg2, .slice A2 n2 c2, .int .i64 ex2, .string t2, .slice LA2 ln2 lc2, .slice KA2 kn2 kc2] 28) = w3 := ⟨_, rfl⟩
  have hb3 : Below vb w w3 := by
    rw [← hw3]
    exact ((Below.refl vb w).alloc (by omega) _).alloc (by rw [World.size_alloc]; omega) _
  have hs3 : w3.heap.size = vb + 2 := by rw [← hw3, World.size_alloc, World.size_alloc]; omega
  have h0 : w3.heap[vb]? = some (.cells #[.int .i64 k1, .bool neg1, .slice A1 n1 c1, .int .i64 ex1, .string t1, .slice LA1 ln1 lc1, .slice KA1 kn1 kc1] 28) := by
    rw [← hw3, Below.heap_alloc _ _ _ (by simp; omega), ← hvb]; exact World.alloc_heap_new _ _
  have h1 : w3.heap[vb + 1]? = some (.cells #[.int .i64 k2, .bool neg2, .slice A2 n2 c2, .int .i64 ex2, .string t2, .slice LA2 ln2 lc2, .slice KA2 kn2 kc2] 28) := by
    rw [← hw3]
    have := World.alloc_heap_new (w.alloc (.cells #[.int .i64 k1, .bool neg1, .slice A1 n1 c1, .int .i64 ex1, .string t1, .slice LA1 ln1 lc1, .slice KA1 kn1 kc1] 28)) (.cells #[.int .i64 k2, .bool neg2, .slice A2 n2 c2, .int .i64 ex2, .string t2, .slice LA2 ln2 lc2, .slice KA2 kn2 kc2] 28)
    rwa [World.size_alloc, hvb] at this
  have hx3 := hx.keep (w' := w3) fun p hp => hb3.cell (p := p) (by have := hS _ hp; omega)
  have hy3 := hy.keep (w' := w3) fun p hp => hb3.cell (p := p) (by have := hS' _ hp; omega)
  have hT3 := hT.below (hvb ▸ hb3)
  obtain ⟨w4, hw4⟩ : ∃ w4, w3.alloc (.cells #[.int .i64 k1, .bool neg1, .slice A1 n1 c1, .int .i64 ex1, .string t1, .slice LA1 ln1 lc1, .slice KA1 kn1 kc1, .int .i64 k2, .bool neg2, .slice A2 n2 c2, .int .i64 ex2, .string t2, .slice LA2 ln2 lc2, .slice KA2 kn2 kc2] 28) = w4 := ⟨_, rfl⟩
  have hb4 : Below (vb + 2) w3 w4 := by rw [← hw4]; exact (Below.refl _ w3).alloc (by omega) _
  have hr4 : w4.heap[vb + 2]? = some (.cells #[.int .i64 k1, .bool neg1, .slice A1 n1 c1, .int .i64 ex1, .string t1, .slice LA1 ln1 lc1, .slice KA1 kn1 kc1, .int .i64 k2, .bool neg2, .slice A2 n2 c2, .int .i64 ex2, .string t2, .slice LA2 ln2 lc2, .slice KA2 kn2 kc2] 28) := by
    rw [← hw4, ← hs3]; exact World.alloc_heap_new _ _
  have hs4 : w4.heap.size = vb + 3 := by rw [← hw4, World.size_alloc, hs3]
  have hx4 := (hx3.keep (w' := w4) fun p hp => hb4.cell (p := p) (by have := hS _ hp; omega))
  have hy4 := (hy3.keep (w' := w4) fun p hp => hb4.cell (p := p) (by have := hS' _ hp; omega))
  have hrow := row_twoK (S := fun b => b < vb + 3) (cs := [.int .i64 k1, .bool neg1, .slice A1 n1 c1, .int .i64 ex1, .string t1, .slice LA1 ln1 lc1, .slice KA1 kn1 kc1]) (ds := [.int .i64 k2, .bool neg2, .slice A2 n2 c2, .int .i64 ex2, .string t2, .slice LA2 ln2 lc2, .slice KA2 kn2 kc2]) rfl rfl hr4 (by omega) (hx4.more fun b hb => by have := hS b hb; omega) (hy4.more fun b hb => by have := hS' b hb; omega)
  have hck := kcheck_c (c := 2) w4 (hT3.below (hb4.mono (by omega))) hrow (fun b hb => by omega)
  obtain ⟨E, hE⟩ : ∃ E, errK [x, y] = E := ⟨_, rfl⟩
  rw [hE] at hck
  obtain ⟨y0, y1, y2, y3, y4, y5, y6⟩ := box7_of h0
  obtain ⟨z0, z1, z2, z3, z4, z5, z6⟩ := box7_of h1
  have HCK := Lib.hid hck
  have HW3 := Lib.hid hw3
  have HW4 := Lib.hid hw4
  have HB4 := Lib.hid (hb3.trans (hb4.mono (by omega)))
  have H0 := Lib.hid ((hb4.block vb (by omega)).trans h0)
  have H1 := Lib.hid ((hb4.block (vb + 1) (by omega)).trans h1)
  have HS4 := Lib.hid hs4
  have HX4 := Lib.hid hx4
  have HY4 := Lib.hid hy4
  have HS := Lib.hid (show ∀ b, S b → b < vb from fun b hb => by have := hS b hb; omega)
  have HS' := Lib.hid (show ∀ b, S' b → b < vb from fun b hb => by have := hS' b hb; omega)
  have hs3' := hs3
  have HK1 := Lib.hid hk1
  have HK2 := Lib.hid hk2
  have HE := Lib.hid hE
  have HBW := Lib.hid hB
  have hB0' : B0 ≤ vb := by omega
  obtain ⟨RB, hRB⟩ : ∃ R, ctB N x y = R := ⟨_, rfl⟩
  obtain ⟨RE, hRE⟩ : ∃ R, ctE x y = R := ⟨_, rfl⟩
  rw [hRB, hRE]
  have HRB := Lib.hid hRB
  have HRE := Lib.hid hRE
  rw [hvb]
  clear hRB hRE hck hw3 hw4 hb3 hb4 h0 h1 hs3 hs4 hx hx3 hx4 hy hy3 hy4 hrow hr4 hT hT3 hS hS' hk1 hk2 hE hB hB0
  go_enter Tryz.func6, Tryz.ntmps6
  go_upto_region 1 with fail
  try rw [hvb]
  clear hvb
  rw [HW3.out]
  go_wp2_with fail
  try rw [hs3']
  rw [HW4.out]
  refine HCK.out.mono ?_
  rintro e9 w5 ⟨rfl, hb5⟩
  rw [HS4.out] at hb5
  have hm0 := (hb5.block vb (by omega)).trans H0.out
  have hm1 := (hb5.block (vb + 1) (by omega)).trans H1.out
  have hs5 : vb + 3 ≤ w5.heap.size := by have := hb5.size; rw [HS4.out] at this; exact this
  have HX5 := Lib.hid (HX4.out.keep (w' := w5) fun p hp => hb5.cell (p := p) (by have := HS.out _ hp; omega))
  have HY5 := Lib.hid (HY4.out.keep (w' := w5) fun p hp => hb5.cell (p := p) (by have := HS'.out _ hp; omega))
  clear y0 y1 y2 y3 y4 y5 y6 z0 z1 z2 z3 z4 z5 z6 hs3'
  obtain ⟨y0, y1, y2, y3, y4, y5, y6⟩ := box7_of hm0
  obtain ⟨z0, z1, z2, z3, z4, z5, z6⟩ := box7_of hm1
  have HM0 := Lib.hid hm0
  have HM1 := Lib.hid hm1
  have HB5 := Lib.hid (HB4.out.trans (hb5.mono (by omega)))
  clear hb5 hm0 hm1
  by_cases hE0 : E = 0
  case neg =>
    have hEb : ((E : Int) == 0) = false := by rw [beq_eq_false_iff_ne]; omega
    have h1 : ctE x y = E := by unfold ctE; rw [HE.out, if_pos hE0]
    have h2 : ctB N x y = false := by unfold ctB; rw [h1, if_pos hE0]
    have g1 := HRE.out.symm.trans h1
    have g2 := HRB.out.symm.trans h2
    subst g1
    subst g2
    go_wp2_with fail
    go_ret2
    exact ⟨rfl, HB5.out⟩
  subst hE0
  obtain ⟨ho1, ho2⟩ := errK_okK HE.out
  have HO1 := Lib.hid ho1
  have HO2 := Lib.hid ho2
  clear ho1 ho2
  have hct : ctE x y = if k1 ≠ k2 ∧ ¬ ((k1 = 1 ∨ k1 = 2) ∧ (k2 = 1 ∨ k2 = 2)) then 41 else 0 := by
    unfold ctE
    rw [HE.out, if_neg (by simp), HK1.out, HK2.out]
  have HCN := Lib.hid (show ∀ W, Below (vb + 3) w5 W → vb + 3 ≤ W.heap.size → Calls Tryz.prog 17 #[.agg #[.int .i64 k1, .bool neg1, .slice A1 n1 c1, .int .i64 ex1, .string t1, .slice LA1 ln1 lc1, .slice KA1 kn1 kc1], .agg #[.int .i64 k2, .bool neg2, .slice A2 n2 c2, .int .i64 ex2, .string t2, .slice LA2 ln2 lc2, .slice KA2 kn2 kc2]] W fun e w' => e = .returned (.bool (conF N x y)) ∧ Below W.heap.size W w' from fun W hW hs => contains_n hTX N x y S S' _ _ W hN HO1.out HO2.out (HX5.out.keep (w' := W) fun p hp => hW.cell (p := p) (by have := HS.out _ hp; omega)) (HY5.out.keep (w' := W) fun p hp => hW.cell (p := p) (by have := HS'.out _ hp; omega)) (fun b hb => by have := HS.out b hb; omega) (fun b hb => by have := HS'.out b hb; omega) ((HBW.out.trans (HB5.out.mono hB0')).trans (hW.mono (by omega))) (by omega))
  have HCT := Lib.hid hct
  clear hct hTX
  by_cases hk : k1 = k2
  · subst hk
    have h1 : ctE x y = 0 := by rw [HCT.out, if_neg (fun h => h.1 rfl)]
    have h2 : ctB N x y = conF N x y := by unfold ctB; rw [h1, if_neg (by simp)]
    obtain ⟨C, hC⟩ : ∃ C, conF N x y = C := ⟨_, rfl⟩
    have hcc := HCN.out w5 (Below.refl _ _) hs5
    rw [hC] at hcc
    have g1 := HRE.out.symm.trans h1
    have g2 := HRB.out.symm.trans (h2.trans hC)
    subst g1
    subst g2
    have HCC := Lib.hid hcc
    clear hcc h1 h2
    go_wp2_with fail
    refine HCC.out.mono ?_
    rintro e9 w6 ⟨rfl, hb6⟩
    have HB6 := Lib.hid (HB5.out.trans (hb6.mono (by omega)))
    clear hb6
    go_wp2_with fail
    go_ret2
    exact ⟨rfl, HB6.out⟩
  have hkb : (k1 == k2) = false := by rw [beq_eq_false_iff_ne]; exact hk
  obtain ⟨P1, hP1⟩ : ∃ P, decide (k1 = 1 ∨ k1 = 2) = P := ⟨_, rfl⟩
  obtain ⟨P2, hP2⟩ : ∃ P, decide (k2 = 1 ∨ k2 = 2) = P := ⟨_, rfl⟩
  have hi1 := fun W => isBool_c (k1 := k1) (neg1 := neg1) (A1 := A1) (n1 := n1) (c1 := c1) (ex1 := ex1) (t1 := t1) (LA1 := LA1) (ln1 := ln1) (lc1 := lc1) (KA1 := KA1) (kn1 := kn1) (kc1 := kc1) W
  have hi2 := fun W => isBool_c (k1 := k2) (neg1 := neg2) (A1 := A2) (n1 := n2) (c1 := c2) (ex1 := ex2) (t1 := t2) (LA1 := LA2) (ln1 := ln2) (lc1 := lc2) (KA1 := KA2) (kn1 := kn2) (kc1 := kc2) W
  simp only [hP1] at hi1
  simp only [hP2] at hi2
  have HI1 := Lib.hid hi1
  have HI2 := Lib.hid hi2
  have HP1 := Lib.hid hP1
  have HP2 := Lib.hid hP2
  have HKN := Lib.hid hk
  clear hi1 hi2 hP1 hP2 hk
  go_wp2_with fail
  refine (HI1.out w5).mono ?_
  rintro e9 w6 ⟨rfl, hb6⟩
  have hs6 : vb + 3 ≤ w6.heap.size := by have := hb6.size; omega
  have HB6 := Lib.hid (show Below (vb + 3) w5 w6 from hb6.mono (by omega))
  clear hb6 y0 y1 y2 y3 y4 y5 y6 z0 z1 z2 z3 z4 z5 z6
  have x0 := (HB6.out.block vb (by omega)).trans HM0.out
  have x1 := (HB6.out.block (vb + 1) (by omega)).trans HM1.out
  obtain ⟨y0, y1, y2, y3, y4, y5, y6⟩ := box7_of x0
  obtain ⟨z0, z1, z2, z3, z4, z5, z6⟩ := box7_of x1
  clear x0 x1
  cases P1 with
  | false =>
    have h1 : ctE x y = 41 := by rw [HCT.out, if_pos ⟨HKN.out, fun h => absurd h.1 (of_decide_eq_false HP1.out)⟩]
    have h2 : ctB N x y = false := by unfold ctB; rw [h1, if_pos (by decide)]
    have g1 := HRE.out.symm.trans h1
    have g2 := HRB.out.symm.trans h2
    subst g1
    subst g2
    clear h1 h2
    go_wp2_with fail
    go_ret2
    exact ⟨rfl, HB5.out.trans (HB6.out.mono (by omega))⟩
  | true =>
    go_wp2_with fail
    refine (HI2.out w6).mono ?_
    rintro e9 w7 ⟨rfl, hb7⟩
    have hs7 : vb + 3 ≤ w7.heap.size := by have := hb7.size; omega
    have HB7 := Lib.hid (HB6.out.trans (show Below (vb + 3) w6 w7 from hb7.mono (by omega)))
    clear hb7 y0 y1 y2 y3 y4 y5 y6 z0 z1 z2 z3 z4 z5 z6
    have x0 := (HB7.out.block vb (by omega)).trans HM0.out
    have x1 := (HB7.out.block (vb + 1) (by omega)).trans HM1.out
    obtain ⟨y0, y1, y2, y3, y4, y5, y6⟩ := box7_of x0
    obtain ⟨z0, z1, z2, z3, z4, z5, z6⟩ := box7_of x1
    clear x0 x1
    cases P2 with
    | false =>
      have h1 : ctE x y = 41 := by rw [HCT.out, if_pos ⟨HKN.out, fun h => absurd h.2 (of_decide_eq_false HP2.out)⟩]
      have h2 : ctB N x y = false := by unfold ctB; rw [h1, if_pos (by decide)]
      have g1 := HRE.out.symm.trans h1
      have g2 := HRB.out.symm.trans h2
      subst g1
      subst g2
      clear h1 h2
      go_wp2_with fail
      go_ret2
      exact ⟨rfl, HB5.out.trans (HB7.out.mono (by omega))⟩
    | true =>
      have h1 : ctE x y = 0 := by rw [HCT.out, if_neg (fun h => h.2 ⟨of_decide_eq_true HP1.out, of_decide_eq_true HP2.out⟩)]
      have h2 : ctB N x y = conF N x y := by unfold ctB; rw [h1, if_neg (by simp)]
      obtain ⟨C, hC⟩ : ∃ C, conF N x y = C := ⟨_, rfl⟩
      have hcc := HCN.out w7 HB7.out hs7
      rw [hC] at hcc
      have g1 := HRE.out.symm.trans h1
      have g2 := HRB.out.symm.trans (h2.trans hC)
      subst g1
      subst g2
      have HCC := Lib.hid hcc
      clear hcc h1 h2
      go_wp2_with fail
      refine HCC.out.mono ?_
      rintro e9 w8 ⟨rfl, hb8⟩
      have HB8 := Lib.hid ((HB5.out.trans (HB7.out.mono (by omega))).trans (hb8.mono (by omega)))
      clear hb8
      go_wp2_with fail
      go_ret2
      exact ⟨rfl, HB8.out⟩
end Go.Proofs.YtipomnogabnfdaaGreatDoor
