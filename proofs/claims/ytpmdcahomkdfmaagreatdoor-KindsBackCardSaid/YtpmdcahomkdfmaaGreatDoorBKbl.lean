/-
  Contracts of kinds.Entries, kinds.Unentries and kinds.Reverse, by their closures'.
  KindsBack: what comes back, as contracts of Unentries of what Entries told and of Reverse twice.
-/
import Derived.Test.YtpmdcahomkdfmaaGreatDoorBKrw
import Derived.Test.YtpmdcahomkdfmaaGreatDoorBKet
set_option linter.unusedVariables false
set_option linter.unusedSimpArgs false
namespace Go.Proofs.YtpmdcahomkdfmaaGreatDoor
open Go.RowKit Go.Lib

theorem errK_oneB (x : VT) : errK [x] = errV x := by
  by_cases h : errV x = 0
  · simp [errK, h]
  · simp [errK, h]
set_option maxRecDepth 1000000 in
set_option maxHeartbeats 8000000 in
theorem wrapE_c {S : Nat → Prop} {x y : VT} {E : Nat} {cs : List Value} (w : World) (hT : Tabs w) (hx : VIn w S x cs) (hS : ∀ b, S b → b < w.heap.size)
    (hcl : okV x → ∀ (vb : Nat) (W : World), Below w.heap.size w W → W.heap[vb]? = some (.cells cs.toArray 28) → Calls Tryz.prog 14 #[.pointer (some ⟨vb, 0, none⟩)] W fun e w' => ∃ cs' : List Value, e = .returned (.tuple #[.agg cs'.toArray, .int .i64 (E : Int)]) ∧ VIn w' (fun b => b < w'.heap.size) y cs' ∧ Below W.heap.size W w') :
    Calls Tryz.prog 5 #[.agg cs.toArray] w fun e w' => WoP (WoV (errV x) E y) (WoR (errV x) E y) w.heap.size e w' ∧ Below w.heap.size w w' := by
  have hmf : ∀ (fn : Fn) (first cap : Array Value) (w : World), (Instr.makeFunc fn first cap).run Tryz.prog w = .ok (.func fn first cap) w := fun _ _ _ _ => rfl
  obtain ⟨k, neg, A, n, c, e, t, LA, ln, lc, KA, kn, kc, rfl, -, -⟩ := hx.seven
  obtain ⟨vb, hvb⟩ : ∃ b, w.heap.size = b := ⟨_, rfl⟩
  obtain ⟨wa, hwa⟩ : ∃ y, w.alloc (.cells #[.int .i64 k, .bool neg, .slice A n c, .int .i64 e, .string t, .slice LA ln lc, .slice KA kn kc] 28) = y := ⟨_, rfl⟩
  have ga : Below vb w wa := by rw [← hwa]; exact (Below.refl _ w).alloc (by omega) _
  have sa : wa.heap.size = vb + 1 := by rw [← hwa, World.size_alloc, hvb]
  have na : wa.heap[vb]? = some (.cells #[.int .i64 k, .bool neg, .slice A n c, .int .i64 e, .string t, .slice LA ln lc, .slice KA kn kc] 28) := by rw [← hwa, ← hvb]; exact World.alloc_heap_new w _
  obtain ⟨w3, hw3⟩ : ∃ y, wa.alloc (.cells #[.int .i64 0, .bool false, .slice none 0 0, .int .i64 0, .string ⟨#[]⟩, .slice none 0 0, .slice none 0 0] 28) = y := ⟨_, rfl⟩
  have gb : Below (vb + 1) wa w3 := by rw [← hw3]; exact (Below.refl _ wa).alloc (by omega) _
  have hs3 : w3.heap.size = vb + 2 := by rw [← hw3, World.size_alloc, sa]
  have h2 : w3.heap[vb + 1]? = some (.cells #[.int .i64 0, .bool false, .slice none 0 0, .int .i64 0, .string ⟨#[]⟩, .slice none 0 0, .slice none 0 0] 28) := by rw [← hw3, ← sa]; exact World.alloc_heap_new wa _
  have h0 : w3.heap[vb]? = some (.cells #[.int .i64 k, .bool neg, .slice A n c, .int .i64 e, .string t, .slice LA ln lc, .slice KA kn kc] 28) := (gb.block _ (by omega)).trans na
  have hb3 : Below vb w w3 := ga.trans (gb.mono (by omega))
  obtain ⟨w4, hw4⟩ : ∃ y, w3.alloc (.cells #[.int .i64 k, .bool neg, .slice A n c, .int .i64 e, .string t, .slice LA ln lc, .slice KA kn kc] 28) = y := ⟨_, rfl⟩
  have hb4 : Below (vb + 2) w3 w4 := by rw [← hw4]; exact (Below.refl _ w3).alloc (by omega) _
  have hs4 : w4.heap.size = vb + 3 := by rw [← hw4, World.size_alloc, hs3]
  have hr4 : w4.heap[vb + 2]? = some (.cells #[.int .i64 k, .bool neg, .slice A n c, .int .i64 e, .string t, .slice LA ln lc, .slice KA kn kc] 28) := by rw [← hw4, ← hs3]; exact World.alloc_heap_new _ _
  have hb04 : Below vb w w4 := hb3.trans (hb4.mono (by omega))
  have hx4 := hx.keep (w' := w4) fun p hp => hb04.cell (p := p) (by have := hS _ hp; omega)
  have hrow := row_oneK (S := fun b => b < vb + 3) hr4 (by omega) (hx4.more fun b hb => by have := hS b hb; omega)
  have hwo := workOut_c (c := 1) (fn := 14) (caps := #[.pointer (some ⟨vb, 0, none⟩)]) (y := y) (E := E) w4 (hT.below (hvb ▸ hb04)) hrow (fun b hb => by omega) (fun ar W => by kernel_rfl)
    (fun hok W hW => hcl (by rw [errK_oneB] at hok; exact hok) vb W (hvb ▸ hb04.trans (hW.mono (by omega))) ((hW.block vb (by omega)).trans ((hb4.block vb (by omega)).trans h0)))
  rw [errK_oneB] at hwo
  obtain ⟨y0, y1, y2, y3, y4, y5, y6⟩ := box7_of h0
  have HWO := Lib.hid hwo
  have HW3 := Lib.hid hw3
  have HWA := Lib.hid hwa
  have HW4 := Lib.hid hw4
  have HB4 := Lib.hid hb04
  have H2 := Lib.hid ((hb4.block (vb + 1) (by omega)).trans h2)
  have HS4 := Lib.hid hs4
  have HS3 := Lib.hid hs3
  rw [hvb]
  obtain ⟨Y, hY⟩ : ∃ Y, WoV (errV x) E y = Y := ⟨_, rfl⟩
  obtain ⟨R, hR⟩ : ∃ R, WoR (errV x) E y = R := ⟨_, rfl⟩
  rw [hY, hR] at HWO ⊢
  clear hwo hw3 hwa hw4 hb3 hb4 hb04 h0 h2 hs3 hs4 hx hx4 hrow hr4 hT hS hY hR ga sa na gb hcl
  go_enter Tryz.func5, Tryz.ntmps5
  go_upto_region 1 with fail
  try rw [hvb]
  clear hvb
  rw [HWA.out]
  rw [HW3.out]
  have hs3 := HS3.out
  go_wp2_with fail
  try rw [hs3]
  rw [HW4.out]
  refine HWO.out.mono ?_
  rintro e9 w5 ⟨⟨cs', rfl, hv⟩, hb5⟩
  rw [HS4.out] at hv hb5
  obtain ⟨k3, neg3, A3, n3, c3, ex3, t3, LA3, ln3, lc3, KA3, kn3, kc3, rfl, -, -⟩ := hv.seven
  have hm5 := (hb5.block (vb + 1) (by omega)).trans H2.out
  have hs5 : vb + 3 ≤ w5.heap.size := by have := hb5.size; rw [HS4.out] at this; exact this
  clear y0 y1 y2 y3 y4 y5 y6 hs3
  obtain ⟨z0, z1, z2, z3, z4, z5, z6⟩ := box7_of hm5
  have fz : ∀ j, w5.frozen? ⟨vb + 1, j, none⟩ = false := fun j => frozen_of_row _ _ j _ _ hm5
  have HV := Lib.hid hv
  have HB5 := Lib.hid (HB4.out.trans (hb5.mono (by omega)))
  clear hv hb5 hm5
  go_wp2_with fail
  refine bodyPost_ret (v := .tuple #[.agg #[.int .i64 k3, .bool neg3, .slice A3 n3 c3, .int .i64 ex3, .string t3, .slice LA3 ln3 lc3, .slice KA3 kn3 kc3], .int .i64 (R : Int)]) (by simp [results, Tryz.results5, go_sem, z0, z1, z2, z3, z4, z5, z6]) rfl ?_
  refine ⟨⟨[.int .i64 k3, .bool neg3, .slice A3 n3 c3, .int .i64 ex3, .string t3, .slice LA3 ln3 lc3, .slice KA3 kn3 kc3], rfl, (HV.out.keep fun p hp => cell_seven (by have := hp.1; omega) _ _ _ _ _ _ _).more fun b hb => ⟨by have := hb.1; omega, ?_⟩⟩, below_seven HB5.out (by omega) _ _ _ _ _ _ _⟩
  have := hb.2
  simpa [World.setCell] using this
set_option maxRecDepth 1000000 in
set_option maxHeartbeats 8000000 in
theorem wrapU_c {S : Nat → Prop} {x y : VT} {E : Nat} {cs : List Value} (w : World) (hT : Tabs w) (hx : VIn w S x cs) (hS : ∀ b, S b → b < w.heap.size)
    (hcl : okV x → ∀ (vb : Nat) (W : World), Below w.heap.size w W → W.heap[vb]? = some (.cells cs.toArray 28) → Calls Tryz.prog 16 #[.pointer (some ⟨vb, 0, none⟩)] W fun e w' => ∃ cs' : List Value, e = .returned (.tuple #[.agg cs'.toArray, .int .i64 (E : Int)]) ∧ VIn w' (fun b => b < w'.heap.size) y cs' ∧ Below W.heap.size W w') :
    Calls Tryz.prog 6 #[.agg cs.toArray] w fun e w' => WoP (WoV (errV x) E y) (WoR (errV x) E y) w.heap.size e w' ∧ Below w.heap.size w w' := by
  have hmf : ∀ (fn : Fn) (first cap : Array Value) (w : World), (Instr.makeFunc fn first cap).run Tryz.prog w = .ok (.func fn first cap) w := fun _ _ _ _ => rfl
  obtain ⟨k, neg, A, n, c, e, t, LA, ln, lc, KA, kn, kc, rfl, -, -⟩ := hx.seven
  obtain ⟨vb, hvb⟩ : ∃ b, w.heap.size = b := ⟨_, rfl⟩
  obtain ⟨wa, hwa⟩ : ∃ y, w.alloc (.cells #[.int .i64 k, .bool neg, .slice A n c, .int .i64 e, .string t, .slice LA ln lc, .slice KA kn kc] 28) = y := ⟨_, rfl⟩
  have ga : Below vb w wa := by rw [← hwa]; exact (Below.refl _ w).alloc (by omega) _
  have sa : wa.heap.size = vb + 1 := by rw [← hwa, World.size_alloc, hvb]
  have na : wa.heap[vb]? = some (.cells #[.int .i64 k, .bool neg, .slice A n c, .int .i64 e, .string t, .slice LA ln lc, .slice KA kn kc] 28) := by rw [← hwa, ← hvb]; exact World.alloc_heap_new w _
  obtain ⟨w3, hw3⟩ : ∃ y, wa.alloc (.cells #[.int .i64 0, .bool false, .slice none 0 0, .int .i64 0, .string ⟨#[]⟩, .slice none 0 0, .slice none 0 0] 28) = y := ⟨_, rfl⟩
  have gb : Below (vb + 1) wa w3 := by rw [← hw3]; exact (Below.refl _ wa).alloc (by omega) _
  have hs3 : w3.heap.size = vb + 2 := by rw [← hw3, World.size_alloc, sa]
  have h2 : w3.heap[vb + 1]? = some (.cells #[.int .i64 0, .bool false, .slice none 0 0, .int .i64 0, .string ⟨#[]⟩, .slice none 0 0, .slice none 0 0] 28) := by rw [← hw3, ← sa]; exact World.alloc_heap_new wa _
  have h0 : w3.heap[vb]? = some (.cells #[.int .i64 k, .bool neg, .slice A n c, .int .i64 e, .string t, .slice LA ln lc, .slice KA kn kc] 28) := (gb.block _ (by omega)).trans na
  have hb3 : Below vb w w3 := ga.trans (gb.mono (by omega))
  obtain ⟨w4, hw4⟩ : ∃ y, w3.alloc (.cells #[.int .i64 k, .bool neg, .slice A n c, .int .i64 e, .string t, .slice LA ln lc, .slice KA kn kc] 28) = y := ⟨_, rfl⟩
  have hb4 : Below (vb + 2) w3 w4 := by rw [← hw4]; exact (Below.refl _ w3).alloc (by omega) _
  have hs4 : w4.heap.size = vb + 3 := by rw [← hw4, World.size_alloc, hs3]
  have hr4 : w4.heap[vb + 2]? = some (.cells #[.int .i64 k, .bool neg, .slice A n c, .int .i64 e, .string t, .slice LA ln lc, .slice KA kn kc] 28) := by rw [← hw4, ← hs3]; exact World.alloc_heap_new _ _
  have hb04 : Below vb w w4 := hb3.trans (hb4.mono (by omega))
  have hx4 := hx.keep (w' := w4) fun p hp => hb04.cell (p := p) (by have := hS _ hp; omega)
  have hrow := row_oneK (S := fun b => b < vb + 3) hr4 (by omega) (hx4.more fun b hb => by have := hS b hb; omega)
  have hwo := workOut_c (c := 1) (fn := 16) (caps := #[.pointer (some ⟨vb, 0, none⟩)]) (y := y) (E := E) w4 (hT.below (hvb ▸ hb04)) hrow (fun b hb => by omega) (fun ar W => by kernel_rfl)
    (fun hok W hW => hcl (by rw [errK_oneB] at hok; exact hok) vb W (hvb ▸ hb04.trans (hW.mono (by omega))) ((hW.block vb (by omega)).trans ((hb4.block vb (by omega)).trans h0)))
  rw [errK_oneB] at hwo
  obtain ⟨y0, y1, y2, y3, y4, y5, y6⟩ := box7_of h0
  have HWO := Lib.hid hwo
  have HW3 := Lib.hid hw3
  have HWA := Lib.hid hwa
  have HW4 := Lib.hid hw4
  have HB4 := Lib.hid hb04
  have H2 := Lib.hid ((hb4.block (vb + 1) (by omega)).trans h2)
  have HS4 := Lib.hid hs4
  have HS3 := Lib.hid hs3
  rw [hvb]
  obtain ⟨Y, hY⟩ : ∃ Y, WoV (errV x) E y = Y := ⟨_, rfl⟩
  obtain ⟨R, hR⟩ : ∃ R, WoR (errV x) E y = R := ⟨_, rfl⟩
  rw [hY, hR] at HWO ⊢
  clear hwo hw3 hwa hw4 hb3 hb4 hb04 h0 h2 hs3 hs4 hx hx4 hrow hr4 hT hS hY hR ga sa na gb hcl
  go_enter Tryz.func6, Tryz.ntmps6
  go_upto_region 1 with fail
  try rw [hvb]
  clear hvb
  rw [HWA.out]
  rw [HW3.out]
  have hs3 := HS3.out
  go_wp2_with fail
  try rw [hs3]
  rw [HW4.out]
  refine HWO.out.mono ?_
  rintro e9 w5 ⟨⟨cs', rfl, hv⟩, hb5⟩
  rw [HS4.out] at hv hb5
  obtain ⟨k3, neg3, A3, n3, c3, ex3, t3, LA3, ln3, lc3, KA3, kn3, kc3, rfl, -, -⟩ := hv.seven
  have hm5 := (hb5.block (vb + 1) (by omega)).trans H2.out
  have hs5 : vb + 3 ≤ w5.heap.size := by have := hb5.size; rw [HS4.out] at this; exact this
  clear y0 y1 y2 y3 y4 y5 y6 hs3
  obtain ⟨z0, z1, z2, z3, z4, z5, z6⟩ := box7_of hm5
  have fz : ∀ j, w5.frozen? ⟨vb + 1, j, none⟩ = false := fun j => frozen_of_row _ _ j _ _ hm5
  have HV := Lib.hid hv
  have HB5 := Lib.hid (HB4.out.trans (hb5.mono (by omega)))
  clear hv hb5 hm5
  go_wp2_with fail
  refine bodyPost_ret (v := .tuple #[.agg #[.int .i64 k3, .bool neg3, .slice A3 n3 c3, .int .i64 ex3, .string t3, .slice LA3 ln3 lc3, .slice KA3 kn3 kc3], .int .i64 (R : Int)]) (by simp [results, Tryz.results6, go_sem, z0, z1, z2, z3, z4, z5, z6]) rfl ?_
  refine ⟨⟨[.int .i64 k3, .bool neg3, .slice A3 n3 c3, .int .i64 ex3, .string t3, .slice LA3 ln3 lc3, .slice KA3 kn3 kc3], rfl, (HV.out.keep fun p hp => cell_seven (by have := hp.1; omega) _ _ _ _ _ _ _).more fun b hb => ⟨by have := hb.1; omega, ?_⟩⟩, below_seven HB5.out (by omega) _ _ _ _ _ _ _⟩
  have := hb.2
  simpa [World.setCell] using this
set_option maxRecDepth 1000000 in
set_option maxHeartbeats 8000000 in
theorem wrapR_c {S : Nat → Prop} {x y : VT} {E : Nat} {cs : List Value} (w : World) (hT : Tabs w) (hx : VIn w S x cs) (hS : ∀ b, S b → b < w.heap.size)
    (hcl : okV x → ∀ (vb : Nat) (W : World), Below w.heap.size w W → W.heap[vb]? = some (.cells cs.toArray 28) → Calls Tryz.prog 21 #[.pointer (some ⟨vb, 0, none⟩)] W fun e w' => ∃ cs' : List Value, e = .returned (.tuple #[.agg cs'.toArray, .int .i64 (E : Int)]) ∧ VIn w' (fun b => b < w'.heap.size) y cs' ∧ Below W.heap.size W w') :
    Calls Tryz.prog 9 #[.agg cs.toArray] w fun e w' => WoP (WoV (errV x) E y) (WoR (errV x) E y) w.heap.size e w' ∧ Below w.heap.size w w' := by
  have hmf : ∀ (fn : Fn) (first cap : Array Value) (w : World), (Instr.makeFunc fn first cap).run Tryz.prog w = .ok (.func fn first cap) w := fun _ _ _ _ => rfl
  obtain ⟨k, neg, A, n, c, e, t, LA, ln, lc, KA, kn, kc, rfl, -, -⟩ := hx.seven
  obtain ⟨vb, hvb⟩ : ∃ b, w.heap.size = b := ⟨_, rfl⟩
  obtain ⟨wa, hwa⟩ : ∃ y, w.alloc (.cells #[.int .i64 k, .bool neg, .slice A n c, .int .i64 e, .string t, .slice LA ln lc, .slice KA kn kc] 28) = y := ⟨_, rfl⟩
  have ga : Below vb w wa := by rw [← hwa]; exact (Below.refl _ w).alloc (by omega) _
  have sa : wa.heap.size = vb + 1 := by rw [← hwa, World.size_alloc, hvb]
  have na : wa.heap[vb]? = some (.cells #[.int .i64 k, .bool neg, .slice A n c, .int .i64 e, .string t, .slice LA ln lc, .slice KA kn kc] 28) := by rw [← hwa, ← hvb]; exact World.alloc_heap_new w _
  obtain ⟨w3, hw3⟩ : ∃ y, wa.alloc (.cells #[.int .i64 0, .bool false, .slice none 0 0, .int .i64 0, .string ⟨#[]⟩, .slice none 0 0, .slice none 0 0] 28) = y := ⟨_, rfl⟩
  have gb : Below (vb + 1) wa w3 := by rw [← hw3]; exact (Below.refl _ wa).alloc (by omega) _
  have hs3 : w3.heap.size = vb + 2 := by rw [← hw3, World.size_alloc, sa]
  have h2 : w3.heap[vb + 1]? = some (.cells #[.int .i64 0, .bool false, .slice none 0 0, .int .i64 0, .string ⟨#[]⟩, .slice none 0 0, .slice none 0 0] 28) := by rw [← hw3, ← sa]; exact World.alloc_heap_new wa _
  have h0 : w3.heap[vb]? = some (.cells #[.int .i64 k, .bool neg, .slice A n c, .int .i64 e, .string t, .slice LA ln lc, .slice KA kn kc] 28) := (gb.block _ (by omega)).trans na
  have hb3 : Below vb w w3 := ga.trans (gb.mono (by omega))
  obtain ⟨w4, hw4⟩ : ∃ y, w3.alloc (.cells #[.int .i64 k, .bool neg, .slice A n c, .int .i64 e, .string t, .slice LA ln lc, .slice KA kn kc] 28) = y := ⟨_, rfl⟩
  have hb4 : Below (vb + 2) w3 w4 := by rw [← hw4]; exact (Below.refl _ w3).alloc (by omega) _
  have hs4 : w4.heap.size = vb + 3 := by rw [← hw4, World.size_alloc, hs3]
  have hr4 : w4.heap[vb + 2]? = some (.cells #[.int .i64 k, .bool neg, .slice A n c, .int .i64 e, .string t, .slice LA ln lc, .slice KA kn kc] 28) := by rw [← hw4, ← hs3]; exact World.alloc_heap_new _ _
  have hb04 : Below vb w w4 := hb3.trans (hb4.mono (by omega))
  have hx4 := hx.keep (w' := w4) fun p hp => hb04.cell (p := p) (by have := hS _ hp; omega)
  have hrow := row_oneK (S := fun b => b < vb + 3) hr4 (by omega) (hx4.more fun b hb => by have := hS b hb; omega)
  have hwo := workOut_c (c := 1) (fn := 21) (caps := #[.pointer (some ⟨vb, 0, none⟩)]) (y := y) (E := E) w4 (hT.below (hvb ▸ hb04)) hrow (fun b hb => by omega) (fun ar W => by kernel_rfl)
    (fun hok W hW => hcl (by rw [errK_oneB] at hok; exact hok) vb W (hvb ▸ hb04.trans (hW.mono (by omega))) ((hW.block vb (by omega)).trans ((hb4.block vb (by omega)).trans h0)))
  rw [errK_oneB] at hwo
  obtain ⟨y0, y1, y2, y3, y4, y5, y6⟩ := box7_of h0
  have HWO := Lib.hid hwo
  have HW3 := Lib.hid hw3
  have HWA := Lib.hid hwa
  have HW4 := Lib.hid hw4
  have HB4 := Lib.hid hb04
  have H2 := Lib.hid ((hb4.block (vb + 1) (by omega)).trans h2)
  have HS4 := Lib.hid hs4
  have HS3 := Lib.hid hs3
  rw [hvb]
  obtain ⟨Y, hY⟩ : ∃ Y, WoV (errV x) E y = Y := ⟨_, rfl⟩
  obtain ⟨R, hR⟩ : ∃ R, WoR (errV x) E y = R := ⟨_, rfl⟩
  rw [hY, hR] at HWO ⊢
  clear hwo hw3 hwa hw4 hb3 hb4 hb04 h0 h2 hs3 hs4 hx hx4 hrow hr4 hT hS hY hR ga sa na gb hcl
  go_enter Tryz.func9, Tryz.ntmps9
  go_upto_region 1 with fail
  try rw [hvb]
  clear hvb
  rw [HWA.out]
  rw [HW3.out]
  have hs3 := HS3.out
  go_wp2_with fail
  try rw [hs3]
  rw [HW4.out]
  refine HWO.out.mono ?_
  rintro e9 w5 ⟨⟨cs', rfl, hv⟩, hb5⟩
  rw [HS4.out] at hv hb5
  obtain ⟨k3, neg3, A3, n3, c3, ex3, t3, LA3, ln3, lc3, KA3, kn3, kc3, rfl, -, -⟩ := hv.seven
  have hm5 := (hb5.block (vb + 1) (by omega)).trans H2.out
  have hs5 : vb + 3 ≤ w5.heap.size := by have := hb5.size; rw [HS4.out] at this; exact this
  clear y0 y1 y2 y3 y4 y5 y6 hs3
  obtain ⟨z0, z1, z2, z3, z4, z5, z6⟩ := box7_of hm5
  have fz : ∀ j, w5.frozen? ⟨vb + 1, j, none⟩ = false := fun j => frozen_of_row _ _ j _ _ hm5
  have HV := Lib.hid hv
  have HB5 := Lib.hid (HB4.out.trans (hb5.mono (by omega)))
  clear hv hb5 hm5
  go_wp2_with fail
  refine bodyPost_ret (v := .tuple #[.agg #[.int .i64 k3, .bool neg3, .slice A3 n3 c3, .int .i64 ex3, .string t3, .slice LA3 ln3 lc3, .slice KA3 kn3 kc3], .int .i64 (R : Int)]) (by simp [results, Tryz.results9, go_sem, z0, z1, z2, z3, z4, z5, z6]) rfl ?_
  refine ⟨⟨[.int .i64 k3, .bool neg3, .slice A3 n3 c3, .int .i64 ex3, .string t3, .slice LA3 ln3 lc3, .slice KA3 kn3 kc3], rfl, (HV.out.keep fun p hp => cell_seven (by have := hp.1; omega) _ _ _ _ _ _ _).more fun b hb => ⟨by have := hb.1; omega, ?_⟩⟩, below_seven HB5.out (by omega) _ _ _ _ _ _ _⟩
  have := hb.2
  simpa [World.setCell] using this
end Go.Proofs.YtpmdcahomkdfmaaGreatDoor

namespace Go.Proofs.YtpmdcahomkdfmaaGreatDoor
open Go.RowKit Go.Lib

theorem wo_good {eK E : Nat} {y : VT} (h : WoR eK E y = 0) : eK = 0 ∧ E = 0 ∧ errV y = 0 ∧ WoV eK E y = y := by
  have hv : WoV eK E y = y := by unfold WoV; exact if_pos h
  unfold WoR at h
  split at h
  · exact absurd h (by assumption)
  rename_i h1
  split at h
  · exact absurd h (by assumption)
  rename_i h2
  exact ⟨by omega, by omega, h, hv⟩
theorem wo_bad {eK E : Nat} {y : VT} (h : WoR eK E y ≠ 0) : WoV eK E y = VT0 := by
  unfold WoV; exact if_neg h
theorem wo_zero {y : VT} (h : errV y = 0) : WoR 0 0 y = 0 ∧ WoV 0 0 y = y := by
  have h1 : WoR 0 0 y = 0 := by unfold WoR; rw [if_neg (by omega), if_neg (by omega)]; exact h
  exact ⟨h1, by unfold WoV; exact if_pos h1⟩
theorem kentries_c {S : Nat → Prop} {x : VT} {cs : List Value} (w : World) (hT : Tabs w) (hx : VIn w S x cs) (hS : ∀ b, S b → b < w.heap.size) :
    Calls Tryz.prog 5 #[.agg cs.toArray] w fun e w' => WoP (WoV (errV x) (entE x) (entY x)) (WoR (errV x) (entE x) (entY x)) w.heap.size e w' ∧ Below w.heap.size w w' :=
  wrapE_c w hT hx hS fun hok vb W hW hv => kentries1_c vb W hok (hx.keep fun p hp => hW.cell (hS _ hp)) (fun b hb => Nat.lt_of_lt_of_le (hS b hb) hW.size) hv
theorem reverse_c {S : Nat → Prop} {x : VT} {cs : List Value} (w : World) (hT : Tabs w) (hx : VIn w S x cs) (hS : ∀ b, S b → b < w.heap.size) :
    Calls Tryz.prog 9 #[.agg cs.toArray] w fun e w' => WoP (WoV (errV x) (revE x) (revY x)) (WoR (errV x) (revE x) (revY x)) w.heap.size e w' ∧ Below w.heap.size w w' :=
  wrapR_c w hT hx hS fun hok vb W hW hv => reverse1_c vb W (hT.below hW) hok (hx.keep fun p hp => hW.cell (hS _ hp)) (fun b hb => Nat.lt_of_lt_of_le (hS b hb) hW.size) hv
/-- Entries of an object that may be. -/
theorem ent_good {x : VT} (h : WoR (errV x) (entE x) (entY x) = 0) : okV x ∧ x.kind = 6 ∧ WoV (errV x) (entE x) (entY x) = listV (List.zipWith entryV x.keys x.list) ∧ errV (listV (List.zipWith entryV x.keys x.list)) = 0 := by
  obtain ⟨h1, h2, h3, h4⟩ := wo_good h
  have h6 : x.kind = 6 := by
    unfold entE at h2
    split at h2
    · assumption
    · exact absurd h2 (by decide)
  have hy : entY x = listV (List.zipWith entryV x.keys x.list) := by unfold entY; exact if_pos h6
  exact ⟨h1, h6, h4.trans hy, hy ▸ h3⟩
theorem unentK_c {S : Nat → Prop} {x : VT} {cs : List Value} (w : World) (hT : Tabs w) (hV : VIn w S (WoV (errV x) (entE x) (entY x)) cs) (hS : ∀ b, S b → b < w.heap.size) :
    ∃ E2 V2, (WoR (errV x) (entE x) (entY x) = 0 → E2 = 0 ∧ V2 = x) ∧ Calls Tryz.prog 6 #[.agg cs.toArray] w fun e w' => WoP V2 E2 w.heap.size e w' ∧ Below w.heap.size w w' := by
  by_cases h : WoR (errV x) (entE x) (entY x) = 0
  · obtain ⟨h1, h6, h3, h4⟩ := ent_good h
    obtain ⟨-, h7, h8⟩ := obj_okK h1 h6
    rw [h3] at hV
    have hu : ∀ v ∈ x.list, under v ≤ 21474836 := fun v hv => Nat.le_trans (under_ok (okV_elemK h1 (by
      have hh : hold x.kind = true := by rw [h6]; rfl
      unfold VT.inner
      rw [if_pos hh]; exact hv))) (by decide)
    have hE : errO x.keys x.list = 0 := by unfold errO; rw [if_pos h8, h7]; exact h1
    have hR : resO x.keys x.list = x := by unfold resO; rw [if_pos hE, h7]
    have hc := wrapU_c (y := x) (E := 0) w hT hV hS fun _ vb W hW hv => by
      have h9 := unent1_c vb W (hT.below hW) h8 (hV.keep fun p hp => hW.cell (hS _ hp)) (fun b hb => Nat.lt_of_lt_of_le (hS b hb) hW.size) hu hv
      rw [hE, hR] at h9
      exact h9
    rw [h4] at hc
    obtain ⟨g1, g2⟩ := wo_zero (show errV x = 0 from h1)
    rw [g1, g2] at hc
    exact ⟨0, x, fun _ => ⟨rfl, rfl⟩, hc⟩
  · rw [wo_bad h] at hV
    exact ⟨_, _, fun h2 => absurd h2 h, wrapU_c (y := VT0) (E := 41) w hT hV hS fun _ vb W hW hv => unent0_c vb W (hV.keep fun p hp => hW.cell (hS _ hp)) (by show (0 : Int) ≠ 5; decide) hv⟩
/-- Turned round twice. -/
theorem rev_twice {x : VT} (h : WoR (errV x) (revE x) (revY x) = 0) : WoR (errV (WoV (errV x) (revE x) (revY x))) (revE (WoV (errV x) (revE x) (revY x))) (revY (WoV (errV x) (revE x) (revY x))) = 0 ∧
    (x.kind = 0 ∨ WoV (errV (WoV (errV x) (revE x) (revY x))) (revE (WoV (errV x) (revE x) (revY x))) (revY (WoV (errV x) (revE x) (revY x))) = x) := by
  obtain ⟨h1, h2, h3, h4⟩ := wo_good h
  rw [h4, h3]
  have hk : x.kind = 0 ∨ x.kind = 4 ∨ x.kind = 5 := by
    unfold revE at h2
    split at h2
    · assumption
    · exact absurd h2 (by decide)
  rcases hk with hk | hk | hk
  · have hy : revY x = listV [] := by unfold revY; exact if_pos hk
    rw [hy] at h3 ⊢
    have e1 : revE (listV []) = 0 := rfl
    have e2 : revY (listV []) = listV [] := rfl
    rw [e1, e2]
    exact ⟨(wo_zero h3).1, .inl hk⟩
  · obtain ⟨hx, ht, -⟩ := text_ofK h1 hk
    have hy : revY x = textV (mk8 (revT x.text.data.toList)) := by unfold revY; rw [if_neg (by omega), if_pos hk]
    obtain ⟨-, r2, -⟩ := revT_ok ht
    have e1 : revE (textV (mk8 (revT x.text.data.toList))) = 0 := rfl
    have e2 : revY (textV (mk8 (revT x.text.data.toList))) = x := by
      have h5 : revY (textV (mk8 (revT x.text.data.toList))) = textV (mk8 (revT (mk8 (revT x.text.data.toList)).data.toList)) := rfl
      rw [h5, mk8_L, r2, mk8_of]
      exact hx.symm
    rw [hy, e1, e2]
    have g := wo_zero (show errV x = 0 from h1)
    exact ⟨g.1, .inr g.2⟩
  · have hx := listV_ofK h1 hk
    have hy : revY x = listV x.list.reverse := by unfold revY; rw [if_neg (by omega), if_neg (by omega), if_pos hk]
    have e1 : revE (listV x.list.reverse) = 0 := rfl
    have e2 : revY (listV x.list.reverse) = x := by
      have h5 : revY (listV x.list.reverse) = listV x.list.reverse.reverse := rfl
      rw [h5, List.reverse_reverse]
      exact hx.symm
    rw [hy, e1, e2]
    have g := wo_zero (show errV x = 0 from h1)
    exact ⟨g.1, .inr g.2⟩
end Go.Proofs.YtpmdcahomkdfmaaGreatDoor
