/-
  The walk of the law DecTexts: it returns true, whatever the texts and the decimals read as.
-/
import Derived.Test.YtjhaoncganoaaaaGreatDoorDrword
import Derived.Test.YtjhaoncganoaaaaGreatDoorDrset
import Derived.Test.YtjhaoncganoaaaaGreatDoorDq
import Derived.Test.YtjhaoncganoaaaaGreatDoorDv
set_option linter.unusedVariables false
set_option linter.unusedSimpArgs false
namespace Go.Proofs.YtjhaoncganoaaaaGreatDoor
open Go.RowKit

/-- A decimal of the call's own in its box. -/
structure Own2 (W : World) (base b : Nat) (N : Bool) (A : Option Addr) (n c : Nat) (X : Int) (Z : List Nat) : Prop where
  box : W.heap[b]? = some (.cells #[.bool N, .slice A n c, .int .i64 X] 24)
  row : Rd W (fun b => base ≤ b ∧ b < W.heap.size) A n Z
theorem Own2.new {w : World} {base : Nat} {N : Bool} {A : Option Addr} {n c : Nat} {X : Int} {Z : List Nat} (h : Res w base A n c Z) : Own2 (w.alloc (.cells #[.bool N, .slice A n c, .int .i64 X] 24)) base w.heap.size N A n c X Z := by
  refine ⟨World.alloc_heap_new w _, ?_⟩
  have h1 := h.rd.below ((Below.refl w.heap.size w).alloc (Nat.le_refl _) (.cells #[.bool N, .slice A n c, .int .i64 X] 24)) (fun b h => h.2)
  exact Rd.more h1 (fun b h => ⟨h.1, by have := h.2; simp; omega⟩)
theorem Own2.below {W W' : World} {base b : Nat} {N : Bool} {A : Option Addr} {n c : Nat} {X : Int} {Z : List Nat} (h : Own2 W base b N A n c X Z) (hb : Below W.heap.size W W') : Own2 W' base b N A n c X Z :=
  ⟨heldB hb h.box, Rd.more (h.row.below hb (fun b h => h.2)) (fun b h => ⟨h.1, by have := hb.size; have := h.2; omega⟩)⟩
theorem Own2.alloc {W : World} {base b : Nat} {N : Bool} {A : Option Addr} {n c : Nat} {X : Int} {Z : List Nat} (h : Own2 W base b N A n c X Z) (o : Obj) : Own2 (W.alloc o) base b N A n c X Z := h.below ((Below.refl _ _).alloc (Nat.le_refl _) _)

set_option maxRecDepth 100000 in
set_option maxHeartbeats 4000000 in
theorem DecTexts_c {S S' : Nat → Prop} {n c m d : Nat} {A B : Option Addr} {xs ys : List Nat} (s : ByteArray) (neg : Bool) (exp : Int) (nb : Bool) (ex2 : Int) (w : World) (hT : Tab10 w) (ha : Rd w S A n xs) (hS : ∀ b, S b → b < w.heap.size) (hn : n ≤ 9223372036854775807) (hb : Rd w S' B m ys) (hS' : ∀ b, S' b → b < w.heap.size) (hm : m ≤ 9223372036854775807) (hs : s.size ≤ 140737488355328) :
    Calls Tryz.prog 3 #[.string s, dv neg A n c exp, .bool nb, .slice B m d, .int .i64 ex2] w fun e w' => e = .returned (.bool true) ∧ Below w.heap.size w w' := by
  have hAl := fun V => alive2_c V
  have hP1 := fun V => DParse_c s V hs
  have hP2 := fun V => rDParse_c s V (by omega)
  have hW1 := fun V (h : Tab10 V) (h2 : Rd V S A n xs) (h3 : ∀ b, S b → b < V.heap.size) => DPrint_c (c := c) neg exp V h h2 h3 hn
  have hW2 := fun V (h2 : Rd V S A n xs) (h3 : ∀ b, S b → b < V.heap.size) => RPrint_c (c := c) neg exp V h2 h3 hn
  have hE1 := fun V (h2 : Rd V S' B m ys) (h3 : ∀ b, S' b → b < V.heap.size) => DSettle_v (c := d) nb ex2 V h2 h3 hm
  have hE2 := fun V (h2 : Rd V S' B m ys) (h3 : ∀ b, S' b → b < V.heap.size) => RSettle_c (c := d) nb ex2 V h2 h3 hm
  unfold SetT at hE1 hE2
  generalize fN (octs s) = FN at *
  generalize fX (octs s) = FX at *
  generalize fE (octs s) = FE at *
  generalize fZ (octs s) = FZ at *
  generalize pE neg xs exp = PE at *
  generalize pT neg xs exp = PT at *
  generalize sN nb ys ex2 = SN at *
  generalize sX ys ex2 = SX at *
  generalize sE ys ex2 = SE at *
  generalize sZ ys ex2 = SZ at *
  unfold dv at hP1 hP2 hW1 hW2 hE1 hE2
  unfold dv
  have hb0 : Below w.heap.size w (w.alloc (.cells #[.bool neg, .slice A n c, .int .i64 exp] 24)) := (Below.refl _ w).alloc (Nat.le_refl _) _
  have m0 := World.alloc_heap_new w (.cells #[.bool neg, .slice A n c, .int .i64 exp] 24)
  have HAL := Lib.hid hAl
  have HP1 := Lib.hid hP1
  have HP2 := Lib.hid hP2
  have HW1 := Lib.hid hW1
  have HW2 := Lib.hid hW2
  have HE1 := Lib.hid hE1
  have HE2 := Lib.hid hE2
  have HT := Lib.hid hT
  have HA := Lib.hid ha
  have HS := Lib.hid hS
  have HB := Lib.hid hb
  have HS' := Lib.hid hS'
  have HB0 := Lib.hid hb0
  have HM0 := Lib.hid m0
  clear hAl hP1 hP2 hW1 hW2 hE1 hE2 hT ha hS hb hS' hb0 m0
  go_enter Tryz.func3, Tryz.ntmps3
  go_wp2_with fail
  refine (HP1.out _).mono ?_
  rintro e w1 ⟨A1, n1, c1, rfl, r1, hb1⟩
  have O1 := Lib.hid (Own2.new (N := FN) (X := FX) (r1.more (Nat.zero_le _)))
  have M1 := Lib.hid (heldC (.cells #[.bool FN, .slice A1 n1 c1, .int .i64 FX] 24) (heldB hb1 HM0.out))
  have hn1 : n1 ≤ 9223372036854775807 := by have := r1.n_le; unfold maxLen at this; omega
  have hw1 := HB0.out.trans (hb1.mono HB0.out.size)
  have HB1 := Lib.hid (hw1.alloc hw1.size (.cells #[.bool FN, .slice A1 n1 c1, .int .i64 FX] 24))
  clear hw1 hb1 r1
  go_wp2_with fail
  refine (HP2.out _).mono ?_
  rintro e w2 ⟨A2, n2, c2, rfl, r2, hb2⟩
  have O2 := Lib.hid (Own2.new (N := FN) (X := FX) (r2.more (Nat.zero_le _)))
  have O1b := Lib.hid ((O1.out.below hb2).alloc (.cells #[.bool FN, .slice A2 n2 c2, .int .i64 FX] 24))
  have M2 := heldC (.cells #[.bool FN, .slice A2 n2 c2, .int .i64 FX] 24) (heldB hb2 M1.out)
  have hn2 : n2 ≤ 9223372036854775807 := by have := r2.n_le; unfold maxLen at this; omega
  have hw2 := HB1.out.trans (hb2.mono HB1.out.size)
  have HB2 := Lib.hid (hw2.alloc hw2.size (.cells #[.bool FN, .slice A2 n2 c2, .int .i64 FX] 24))
  clear hw2 hb2 r2 O1 M1
  obtain ⟨V2, hV2⟩ : ∃ V, V = w2.alloc (.cells #[.bool FN, .slice A2 n2 c2, .int .i64 FX] 24) := ⟨_, rfl⟩
  rw [← hV2] at O2 O1b M2 HB2
  have q0 : V2.cell? ⟨w.heap.size, 0, none⟩ = some (.bool neg) := cell_of M2 rfl
  have q1 : V2.cell? ⟨w.heap.size, 1, none⟩ = some (.slice A n c) := cell_of M2 rfl
  have q2 : V2.cell? ⟨w.heap.size, 2, none⟩ = some (.int .i64 exp) := cell_of M2 rfl
  have HM2 := Lib.hid M2
  rw [hV2] at q0 q1 q2
  clear M2
  go_wp2_with fail
  rw [← hV2]
  refine (HW1.out V2 (HT.out.below HB2.out) (HA.out.below HB2.out HS.out) (fun b h => by have := HS.out b h; have := HB2.out.size; omega)).mono ?_
  rintro e w3 ⟨t3, rfl, ht3, _, hb3⟩
  have HT3 := Lib.hid ht3
  have M3 := heldB hb3 HM2.out
  have O1 := Lib.hid (O1b.out.below hb3)
  have O2b := Lib.hid (O2.out.below hb3)
  have HB3 := Lib.hid (HB2.out.trans (hb3.mono HB2.out.size))
  have y0 : w3.cell? ⟨w.heap.size, 0, none⟩ = some (.bool neg) := cell_of M3 rfl
  have y1 : w3.cell? ⟨w.heap.size, 1, none⟩ = some (.slice A n c) := cell_of M3 rfl
  have y2 : w3.cell? ⟨w.heap.size, 2, none⟩ = some (.int .i64 exp) := cell_of M3 rfl
  clear q0 q1 q2 hV2 O1b O2 HM2 hb3 ht3 M3
  go_wp2_with fail
  refine (HW2.out w3 (HA.out.below HB3.out HS.out) (fun b h => by have := HS.out b h; have := HB3.out.size; omega)).mono ?_
  rintro e w4 ⟨t4, rfl, ht4, hb4⟩
  obtain rfl : t4 = t3 := octs_inj (ht4.trans HT3.out.symm)
  have O1b := Lib.hid (O1.out.below hb4)
  have O2 := Lib.hid (O2b.out.below hb4)
  have HB4 := Lib.hid (HB3.out.trans (hb4.mono HB3.out.size))
  clear y0 y1 y2 hb4 O1 O2b ht4 HT3
  go_wp2_with fail
  refine (HE1.out w4 (HB.out.below HB4.out HS'.out) (fun b h => by have := HS'.out b h; have := HB4.out.size; omega)).mono ?_
  rintro e w5 ⟨⟨A5, n5, c5, rfl, r5⟩, hb5⟩
  have O5 := Lib.hid (Own2.new (N := SN) (X := SX) (r5.more (Nat.zero_le _)))
  have O1 := Lib.hid ((O1b.out.below hb5).alloc (.cells #[.bool SN, .slice A5 n5 c5, .int .i64 SX] 24))
  have O2b := Lib.hid ((O2.out.below hb5).alloc (.cells #[.bool SN, .slice A5 n5 c5, .int .i64 SX] 24))
  have hn5 : n5 ≤ 9223372036854775807 := by have := r5.n_le; unfold maxLen at this; omega
  have hw5 := HB4.out.trans (hb5.mono HB4.out.size)
  have HB5 := Lib.hid (hw5.alloc hw5.size (.cells #[.bool SN, .slice A5 n5 c5, .int .i64 SX] 24))
  clear hb5 r5 hw5 O1b O2
  go_wp2_with fail
  refine (HE2.out _ (HB.out.below HB5.out HS'.out) (fun b h => by have := HS'.out b h; have := HB5.out.size; omega)).mono ?_
  rintro e w6 ⟨⟨A6, n6, c6, rfl, r6⟩, hb6⟩
  have O6 := Own2.new (N := SN) (X := SX) (r6.more (Nat.zero_le _))
  have O1 := (O1.out.below hb6).alloc (.cells #[.bool SN, .slice A6 n6 c6, .int .i64 SX] 24)
  have O2 := (O2b.out.below hb6).alloc (.cells #[.bool SN, .slice A6 n6 c6, .int .i64 SX] 24)
  have O5 := (O5.out.below hb6).alloc (.cells #[.bool SN, .slice A6 n6 c6, .int .i64 SX] 24)
  have hn6 : n6 ≤ 9223372036854775807 := by have := r6.n_le; unfold maxLen at this; omega
  have hw6 := HB5.out.trans (hb6.mono HB5.out.size)
  have HB6 := Lib.hid (hw6.alloc hw6.size (.cells #[.bool SN, .slice A6 n6 c6, .int .i64 SX] 24))
  clear hb6 r6 hw6 O2b
  have x0 : (w6.alloc (.cells #[.bool SN, .slice A6 n6 c6, .int .i64 SX] 24)).cell? ⟨w1.heap.size, 0, none⟩ = some (.bool FN) := cell_of O1.box rfl
  have x1 : (w6.alloc (.cells #[.bool SN, .slice A6 n6 c6, .int .i64 SX] 24)).cell? ⟨w1.heap.size, 1, none⟩ = some (.slice A1 n1 c1) := cell_of O1.box rfl
  have x2 : (w6.alloc (.cells #[.bool SN, .slice A6 n6 c6, .int .i64 SX] 24)).cell? ⟨w1.heap.size, 2, none⟩ = some (.int .i64 FX) := cell_of O1.box rfl
  have y0 : (w6.alloc (.cells #[.bool SN, .slice A6 n6 c6, .int .i64 SX] 24)).cell? ⟨w2.heap.size, 0, none⟩ = some (.bool FN) := cell_of O2.box rfl
  have y1 : (w6.alloc (.cells #[.bool SN, .slice A6 n6 c6, .int .i64 SX] 24)).cell? ⟨w2.heap.size, 1, none⟩ = some (.slice A2 n2 c2) := cell_of O2.box rfl
  have y2 : (w6.alloc (.cells #[.bool SN, .slice A6 n6 c6, .int .i64 SX] 24)).cell? ⟨w2.heap.size, 2, none⟩ = some (.int .i64 FX) := cell_of O2.box rfl
  have hSm := DSame_c (c := c1) (d := c2) FN FN FX FX (w6.alloc (.cells #[.bool SN, .slice A6 n6 c6, .int .i64 SX] 24)) O1.row O2.row (fun b h => h.2) (fun b h => h.2) hn1 hn2
  rw [decide_eq_true (show FN = FN ∧ FX = FX ∧ FZ = FZ from ⟨rfl, rfl, rfl⟩)] at hSm
  unfold dv at hSm
  have HSM := Lib.hid hSm
  have HO5 := Lib.hid O5
  have HO6 := Lib.hid O6
  clear hSm O1 O2 O5 O6
  go_wp2_with fail
  refine HSM.out.mono ?_
  rintro e w7 ⟨rfl, hb7⟩
  have P5 := HO5.out.below hb7
  have P6 := HO6.out.below hb7
  have HB7 := Lib.hid (HB6.out.trans (hb7.mono HB6.out.size))
  clear x0 x1 x2 y0 y1 y2 hb7
  have x0 : w7.cell? ⟨w5.heap.size, 0, none⟩ = some (.bool SN) := cell_of P5.box rfl
  have x1 : w7.cell? ⟨w5.heap.size, 1, none⟩ = some (.slice A5 n5 c5) := cell_of P5.box rfl
  have x2 : w7.cell? ⟨w5.heap.size, 2, none⟩ = some (.int .i64 SX) := cell_of P5.box rfl
  have y0 : w7.cell? ⟨w6.heap.size, 0, none⟩ = some (.bool SN) := cell_of P6.box rfl
  have y1 : w7.cell? ⟨w6.heap.size, 1, none⟩ = some (.slice A6 n6 c6) := cell_of P6.box rfl
  have y2 : w7.cell? ⟨w6.heap.size, 2, none⟩ = some (.int .i64 SX) := cell_of P6.box rfl
  have hSm := DSame_c (c := c5) (d := c6) SN SN SX SX w7 P5.row P6.row (fun b h => h.2) (fun b h => h.2) hn5 hn6
  rw [decide_eq_true (show SN = SN ∧ SX = SX ∧ SZ = SZ from ⟨rfl, rfl, rfl⟩)] at hSm
  unfold dv at hSm
  have HSM2 := Lib.hid hSm
  clear hSm P5 P6 HO5 HO6
  go_wp2_with (go_at_call 18; refine (num2_c _ _).mono ?_; rintro e w' ⟨rfl, rfl⟩)
  refine HSM2.out.mono ?_
  rintro e w8 ⟨rfl, hb8⟩
  have HB8 := Lib.hid (HB7.out.trans (hb8.mono HB7.out.size))
  clear x0 x1 x2 y0 y1 y2 hb8
  go_wp2_with (go_at_call 18; refine (num2_c _ _).mono ?_; rintro e w' ⟨rfl, rfl⟩)
  refine (HAL.out w8).mono ?_
  rintro e w9 ⟨rfl, hb9⟩
  go_wp2
  go_ret
  exact ⟨rfl, HB8.out.trans (hb9.mono HB8.out.size)⟩
end Go.Proofs.YtjhaoncganoaaaaGreatDoor
