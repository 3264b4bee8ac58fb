/-
  Contract of kinds.Keys, whole.
  The walk of the law KindsFlat: it returns true, whatever the value and the depth are.
-/
import Derived.Test.YtobfeneeehmpcaaGreatDoorYKky
import Derived.Test.YtobfeneeehmpcaaGreatDoorYKal
import Derived.Test.YtobfeneeehmpcaaGreatDoorYKbs
import Derived.Test.YtobfeneeehmpcaaGreatDoorYKwo
set_option linter.unusedVariables false
set_option linter.unusedSimpArgs false
namespace Go.Proofs.YtobfeneeehmpcaaGreatDoor
open Go.RowKit Go.Lib

set_option maxRecDepth 1000000 in
set_option maxHeartbeats 4000000 in
theorem keysN_c {S : Nat → Prop} {x : VT} {cs : List Value} (vb : Nat) (w : World) (h6 : x.kind ≠ 6) (h5 : x.kind ≠ 5) (hx : VIn w S x cs) (hv : w.heap[vb]? = some (.cells cs.toArray 28)) :
    Calls Tryz.prog 20 #[.pointer (some ⟨vb, 0, none⟩)] w fun e w' => ∃ cs' : List Value, e = .returned (.tuple #[.agg cs'.toArray, .int .i64 ((41 : Nat) : Int)]) ∧ VIn w' (fun b => b < w'.heap.size) VT0 cs' ∧ Below w.heap.size w w' := by
  obtain ⟨rs, hrs⟩ : ∃ b, w.heap.size = b := ⟨_, rfl⟩
  obtain ⟨k2, neg2, A2, n2, c2, e2, t2, LA2, ln2, lc2, KA2, kn2, kc2, rfl, hk, -⟩ := hx.seven
  have hk6 : ¬ k2 = 6 := by rw [← hk]; exact h6
  have hk5 : ¬ k2 = 5 := by rw [← hk]; exact h5
  have hk6b : (k2 == 6) = false := by simpa using hk6
  have hk5b : (k2 == 5) = false := by simpa using hk5
  have hvl := (Array.getElem?_eq_some_iff.1 hv).1
  obtain ⟨w0, hw0⟩ : ∃ w0, w.alloc (.cells #[.int .i64 0, .bool false, .slice none 0 0, .int .i64 0, .string ⟨#[]⟩, .slice none 0 0, .slice none 0 0] 28) = w0 := ⟨_, rfl⟩
  have hb0 : Below rs w w0 := by rw [← hw0]; exact (Below.refl _ w).alloc (by omega) _
  have hm0 : w0.heap[rs]? = some (.cells #[.int .i64 0, .bool false, .slice none 0 0, .int .i64 0, .string ⟨#[]⟩, .slice none 0 0, .slice none 0 0] 28) := by rw [← hw0, ← hrs]; exact World.alloc_heap_new _ _
  have hs0 : w0.heap.size = rs + 1 := by rw [← hw0, World.size_alloc, hrs]
  obtain ⟨y0, y1, y2, y3, y4, y5, y6⟩ := box7_of ((hb0.block vb (by omega)).trans hv)
  obtain ⟨z0, z1, z2, z3, z4, z5, z6⟩ := box7_of hm0
  have fz : ∀ j, w0.frozen? ⟨rs, j, none⟩ = false := fun j => frozen_of_row _ _ j _ _ hm0
  have HW0 := Lib.hid hw0
  have HB0 := Lib.hid hb0
  have HS0 := Lib.hid hs0
  rw [hrs]
  clear hw0 hb0 hm0 hs0 hx hv hvl hk h5 h6
  go_enter Tryz.func20, Tryz.ntmps20
  go_upto_region 1 with fail
  try rw [hrs]
  clear hrs
  rw [HW0.out]
  go_wp2_with fail
  refine bodyPost_ret (v := .tuple #[.agg #[.int .i64 0, .bool false, .slice none 0 0, .int .i64 0, .string ⟨#[]⟩, .slice none 0 0, .slice none 0 0], .int .i64 ((41 : Nat) : Int)]) (by simp [results, Tryz.results20, go_sem, z0, z1, z2, z3, z4, z5, z6]) rfl ?_
  exact fin7 (y := VT0) (E := 41) (by rw [HS0.out]; omega) (vin_zero _ _) HB0.out
theorem keys1_c {S : Nat → Prop} {x : VT} {cs : List Value} (vb : Nat) (w : World) (hok : okV x) (hx : VIn w S x cs) (hS : ∀ b, S b → b < w.heap.size) (hv : w.heap[vb]? = some (.cells cs.toArray 28)) :
    Calls Tryz.prog 20 #[.pointer (some ⟨vb, 0, none⟩)] w fun e w' => ∃ cs' : List Value, e = .returned (.tuple #[.agg cs'.toArray, .int .i64 (keysE x : Int)]) ∧ VIn w' (fun b => b < w'.heap.size) (keysY x) cs' ∧ Below w.heap.size w w' := by
  unfold keysE keysY
  by_cases h6 : x.kind = 6
  · rw [if_pos h6, if_pos h6]; exact keysO_c vb w hok h6 hx hS hv
  · rw [if_neg h6, if_neg h6]
    by_cases h5 : x.kind = 5
    · rw [if_pos h5, if_pos h5]; exact keysL_c vb w hok h5 hx hS hv
    · rw [if_neg h5, if_neg h5]; exact keysN_c vb w h6 h5 hx hv
set_option maxRecDepth 1000000 in
set_option maxHeartbeats 4000000 in
theorem keysw_c {S : Nat → Prop} {x : VT} {cs : List Value} (w : World) (hT : Tabs w) (hx : VIn w S x cs) (hS : ∀ b, S b → b < w.heap.size) :
    Calls Tryz.prog 10 #[.agg cs.toArray] w fun e w' => WoP (WoV (errV x) (keysE x) (keysY x)) (WoR (errV x) (keysE x) (keysY x)) w.heap.size e w' ∧ Below w.heap.size w w' := by
  have hmf : ∀ (fn : Fn) (first cap : Array Value) (w : World), (Instr.makeFunc fn first cap).run Tryz.prog w = .ok (.func fn first cap) w := fun _ _ _ _ => rfl
  obtain ⟨k, neg, A, n, c, e, t, LA, ln, lc, KA, kn, kc, rfl, -, -⟩ := hx.seven
  obtain ⟨vb, hvb⟩ : ∃ b, w.heap.size = b := ⟨_, rfl⟩
  obtain ⟨w3, hw3⟩ : ∃ w3, (w.alloc (.cells #[.int .i64 k, .bool neg, .slice A n c, .int .i64 e, .string t, .slice LA ln lc, .slice KA kn kc] 28)).alloc (.cells #[.int .i64 0, .bool false, .slice none 0 0, .int .i64 0, .string ⟨#[]⟩, .slice none 0 0, .slice none 0 0] 28) = w3 := ⟨_, rfl⟩
  have hb3 : Below vb w w3 := by
    rw [← hw3]
    exact ((Below.refl vb w).alloc (by omega) _).alloc (by rw [World.size_alloc]; omega) _
  have hs3 : w3.heap.size = vb + 2 := by rw [← hw3, World.size_alloc, World.size_alloc]; omega
  have h0 : w3.heap[vb]? = some (.cells #[.int .i64 k, .bool neg, .slice A n c, .int .i64 e, .string t, .slice LA ln lc, .slice KA kn kc] 28) := by
    rw [← hw3, Below.heap_alloc _ _ _ (by simp; omega), ← hvb]; exact World.alloc_heap_new _ _
  have h2 : w3.heap[vb + 1]? = some (.cells #[.int .i64 0, .bool false, .slice none 0 0, .int .i64 0, .string ⟨#[]⟩, .slice none 0 0, .slice none 0 0] 28) := by
    rw [← hw3]
    have := World.alloc_heap_new (w.alloc (.cells #[.int .i64 k, .bool neg, .slice A n c, .int .i64 e, .string t, .slice LA ln lc, .slice KA kn kc] 28)) (.cells #[.int .i64 0, .bool false, .slice none 0 0, .int .i64 0, .string ⟨#[]⟩, .slice none 0 0, .slice none 0 0] 28)
    rwa [World.size_alloc, hvb] at this
  have hx3 := hx.keep (w' := w3) fun p hp => hb3.cell (p := p) (by have := hS _ hp; omega)
  have hT3 := hT.below (hvb ▸ hb3)
  obtain ⟨w4, hw4⟩ : ∃ w4, w3.alloc (.cells #[.int .i64 k, .bool neg, .slice A n c, .int .i64 e, .string t, .slice LA ln lc, .slice KA kn kc] 28) = w4 := ⟨_, rfl⟩
  have hb4 : Below (vb + 2) w3 w4 := by rw [← hw4]; exact (Below.refl _ w3).alloc (by omega) _
  have hr4 : w4.heap[vb + 2]? = some (.cells #[.int .i64 k, .bool neg, .slice A n c, .int .i64 e, .string t, .slice LA ln lc, .slice KA kn kc] 28) := by
    rw [← hw4, ← hs3]; exact World.alloc_heap_new _ _
  have hs4 : w4.heap.size = vb + 3 := by rw [← hw4, World.size_alloc, hs3]
  have hx4 := (hx3.keep (w' := w4) fun p hp => hb4.cell (p := p) (by have := hS _ hp; omega))
  have hrow := row_oneK (S := fun b => b < vb + 3) hr4 (by omega) (hx4.more fun b hb => by have := hS b hb; omega)
  have hwo := workOut_c (c := 1) (fn := 20) (caps := #[.pointer (some ⟨vb, 0, none⟩)]) (y := keysY x) (E := keysE x) w4 (hT3.below (hb4.mono (by omega))) hrow (fun b hb => by omega) (fun ar W => by kernel_rfl)
    (fun hok W hW => keys1_c vb W (by rw [errK_one] at hok; exact hok) (hx4.keep (w' := W) fun p hp => hW.cell (p := p) (by have := hS _ hp; omega)) (fun b hb => by have := hS b hb; have := hW.size; omega) ((hW.block vb (by omega)).trans ((hb4.block vb (by omega)).trans h0)))
  rw [errK_one] at hwo
  obtain ⟨y0, y1, y2, y3, y4, y5, y6⟩ := box7_of h0
  have HWO := Lib.hid hwo
  have HW3 := Lib.hid hw3
  have HW4 := Lib.hid hw4
  have HB4 := Lib.hid (hb3.trans (hb4.mono (by omega)))
  have H2 := Lib.hid ((hb4.block (vb + 1) (by omega)).trans h2)
  have HS4 := Lib.hid hs4
  have HVB := Lib.hid hvb
  have hs3' := hs3
  rw [hvb]
  obtain ⟨Y, hY⟩ : ∃ Y, WoV (errV x) (keysE x) (keysY x) = Y := ⟨_, rfl⟩
  obtain ⟨R, hR⟩ : ∃ R, WoR (errV x) (keysE x) (keysY x) = R := ⟨_, rfl⟩
  rw [hY, hR] at HWO ⊢
  clear hwo hw3 hw4 hb3 hb4 h0 h2 hs3 hs4 hx hx3 hx4 hrow hr4 hT hT3 hS hY hR
  go_enter Tryz.func10, Tryz.ntmps10
  go_upto_region 1 with fail
  try rw [hvb]
  clear hvb
  rw [HW3.out]
  go_wp2_with fail
  try rw [hs3']
  rw [HW4.out]
  refine HWO.out.mono ?_
  rintro e9 w5 ⟨⟨cs', rfl, hv⟩, hb5⟩
  rw [HS4.out] at hv hb5
  obtain ⟨k3, neg3, A3, n3, c3, ex3, t3, LA3, ln3, lc3, KA3, kn3, kc3, rfl, -, -⟩ := hv.seven
  have hm5 := (hb5.block (vb + 1) (by omega)).trans H2.out
  have hs5 : vb + 3 ≤ w5.heap.size := by have := hb5.size; rw [HS4.out] at this; exact this
  clear y0 y1 y2 y3 y4 y5 y6 hs3'
  obtain ⟨z0, z1, z2, z3, z4, z5, z6⟩ := box7_of hm5
  have fz : ∀ j, w5.frozen? ⟨vb + 1, j, none⟩ = false := fun j => frozen_of_row _ _ j _ _ hm5
  have HV := Lib.hid hv
  have HB5 := Lib.hid (HB4.out.trans (hb5.mono (by omega)))
  clear hv hb5 hm5
  go_wp2_with fail
  refine bodyPost_ret (v := .tuple #[.agg #[.int .i64 k3, .bool neg3, .slice A3 n3 c3, .int .i64 ex3, .string t3, .slice LA3 ln3 lc3, .slice KA3 kn3 kc3], .int .i64 (R : Int)]) (by simp [results, Tryz.results10, go_sem, z0, z1, z2, z3, z4, z5, z6]) rfl ?_
  refine ⟨⟨[.int .i64 k3, .bool neg3, .slice A3 n3 c3, .int .i64 ex3, .string t3, .slice LA3 ln3 lc3, .slice KA3 kn3 kc3], rfl, (HV.out.keep fun p hp => cell_seven (by have := hp.1; omega) _ _ _ _ _ _ _).more fun b hb => ⟨by have := hb.1; omega, ?_⟩⟩, below_seven HB5.out (by omega) _ _ _ _ _ _ _⟩
  have := hb.2
  simpa [World.setCell] using this
end Go.Proofs.YtobfeneeehmpcaaGreatDoor

namespace Go.Proofs.YtobfeneeehmpcaaGreatDoor
open Go.RowKit Go.Lib

theorem vin0_ln {w : World} {S : Nat → Prop} {k : Int} {neg : Bool} {e : Int} {t : ByteArray} {A LA KA : Option Addr} {n c ln lc kn kc : Nat} (h : VIn w S VT0 [.int .i64 k, .bool neg, .slice A n c, .int .i64 e, .string t, .slice LA ln lc, .slice KA kn kc]) : ln = 0 := by
  unfold VT0 at h
  cases h with
  | mk hr hn ht hks hkn hl hln hlc hrow hall => exact hl.symm
theorem vin_listK {w : World} {S : Nat → Prop} {l : List VT} {k : Int} {neg : Bool} {e : Int} {t : ByteArray} {A LA KA : Option Addr} {n c ln lc kn kc : Nat} (h : VIn w S (listV l) [.int .i64 k, .bool neg, .slice A n c, .int .i64 e, .string t, .slice LA ln lc, .slice KA kn kc]) : RdL w S LA ln l := by
  unfold listV at h
  cases h with
  | mk hr hn ht hks hkn hl hln hlc hrow hall => exact ⟨hl, by omega, _, hrow, hall⟩
end Go.Proofs.YtobfeneeehmpcaaGreatDoor
