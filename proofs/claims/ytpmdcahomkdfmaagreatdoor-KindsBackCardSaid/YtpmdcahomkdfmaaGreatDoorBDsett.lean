/-
  Contracts of the reference's number and Int; whole numbers as decimals.
  Contracts of the reference's Number and the law's num.
  The page's example of order, as the law asks it.
  Contract of nat.guessDigit: from the highest limbs alone, how often the divisor goes into the rest, or one more.
  Contract of nat.takeMultiple: over a window of a row of one's own, it takes a multiple out, in place, and tells whether the highest limb could not lend what is missing.
  Contract of nat.takeOut: over a window of a row of one's own, it takes the divisor out as often as it goes in, and answers how often.
  Contracts of nat.shiftLeft and nat.shiftRight: a number times, and divided by, a power of two below a limb, in memory of its own.
  Contract of nat.shiftRight: a number divided by a power of two below a limb, in memory of its own.
  The two functions of math/bits that the code calls, by the shelf's contracts, laid in plain words at this seat's program; and what a limb's length says.
  Contract of nat.divideLong: quotient and rest by a divisor of two limbs or more.
  Contracts of nat.divide and nat.Div.
  Contracts of nat.bitLen and nat.powerOfTwo; reading a row's number off the world.
  Contracts of nat.root and nat.Root: the greatest number whose square is not above the number.
  Contracts of quot's sure, widen, digits and the questions asked of a cut quotient: exact, odd, toHalf.
  Contracts of quot's digits, and of the questions asked of a cut quotient: exact, odd, toHalf.
  Contracts of quot.divide with each question that it is handed.
  Contract of dec.Settle, in plain words.
-/
import Derived.Test.YtpmdcahomkdfmaaGreatDoorBVord
import Derived.Test.YtpmdcahomkdfmaaGreatDoorBNrefe
import Derived.Test.YtpmdcahomkdfmaaGreatDoorBDintc
import Derived.PlainAid
import Derived.Test.YtpmdcahomkdfmaaGreatDoorBVcm
import Derived.Deep.RegionHeld3
import Derived.Deep.Cut
import Derived.Calls
import Derived.Test.YtpmdcahomkdfmaaGreatDoorBVcpy
import Derived.Test.YtpmdcahomkdfmaaGreatDoorBVchk
import Derived.Laws.EntriesVeiled
import Derived.Test.YtpmdcahomkdfmaaGreatDoorBVsame
import Derived.Test.YtpmdcahomkdfmaaGreatDoorBNlimb
import Derived.BigQuiet
import Derived.Test.YtpmdcahomkdfmaaGreatDoorBNaddm
import Derived.Deep.QuietTactic
import Derived.Outline
import Derived.Shelf.Small.Bits
import Derived.Test.YtpmdcahomkdfmaaGreatDoorProg
import Derived.Test.YtpmdcahomkdfmaaGreatDoorBPow
import Derived.Lib.ItoaNum
import Derived.BigRegion
import Derived.Deep.RegionWith
import Derived.Test.YtpmdcahomkdfmaaGreatDoorBNapi
import Derived.OwnWalk
import Derived.Test.YtpmdcahomkdfmaaGreatDoorBNparse
import Derived.Test.YtpmdcahomkdfmaaGreatDoorBDset
import Derived.Deep.AppendLies
set_option linter.unusedVariables false
set_option linter.unusedSimpArgs false
namespace Go.Proofs.YtpmdcahomkdfmaaGreatDoor
open Go.RowKit

set_option maxRecDepth 100000 in
theorem rnumber_c (x : Nat) (w : World) (hx : x < 18446744073709551616) :
    Calls Tryz.prog 55 #[.int .u64 x] w fun e w' => ∃ A n c ds, e = .returned (.slice A n c) ∧ ResI w' w.heap.size A n c ds ∧ DCan ds ∧ dval ds = x ∧ n ≤ 2731 ∧ Below w.heap.size w w' := by
  go_enter Tryz.func55, Tryz.ntmps55
  go_wp2_with fail
  refine (rFrom_c x w hx).mono ?_
  rintro e w1 ⟨A1, n1, c1, rfl, hr1, hn1, hb1⟩
  go_wp2_with fail
  refine (Digits_k (c := c1) w1 hr1.rd (fun b h => h.2) (by omega)).mono ?_
  rintro e w2 ⟨A2, n2, c2, ds, rfl, hr2, hd2, hv2, hl2, hb2⟩
  rw [lim_val] at hv2
  have HV := Lib.hid hv2
  clear hv2
  go_wp2
  go_ret
  exact ⟨A2, n2, c2, ds, rfl, hr2.more hb1.size, hd2, HV.out, hl2, hb1.trans (hb2.mono hb1.size)⟩
set_option maxRecDepth 100000 in
set_option maxHeartbeats 2000000 in
theorem RInt_c (z : Int) (w : World) (h1 : -9223372036854775808 ≤ z) (h2 : z ≤ 9223372036854775807) :
    Calls Tryz.prog 33 #[.int .i64 z] w fun e w' => ∃ A n c, e = .returned (dv (stN (decide (z < 0)) z.natAbs 0) A n c (stX z.natAbs 0)) ∧ Res w' w.heap.size A n c (stZ z.natAbs 0) ∧ Below w.heap.size w w' := by
  have hb0 : ∀ o, Below w.heap.size w (w.alloc o) := fun o => (Below.refl _ _).alloc (Nat.le_refl _) _
  have hW := hb0 (.cells #[.bool false, .slice none 0 0, .int .i64 0] 24)
  have m0 := World.alloc_heap_new w (.cells #[.bool false, .slice none 0 0, .int .i64 0] 24)
  have hsz : (w.alloc (.cells #[.bool false, .slice none 0 0, .int .i64 0] 24)).heap.size = w.heap.size + 1 := by simp
  have HM0 := Lib.hid m0
  clear m0
  by_cases hz : z < 0
  · rw [decide_eq_true hz]
    obtain ⟨u, hu⟩ : ∃ u : Nat, u = z.natAbs := ⟨_, rfl⟩
    obtain ⟨y, hy⟩ : ∃ y : Nat, (y : Int) = z + 18446744073709551616 := ⟨(z + 18446744073709551616).toNat, by omega⟩
    obtain ⟨v, hv⟩ : ∃ v : Nat, v + 1 = u := ⟨u - 1, by omega⟩
    have hc1 : IntKind.u64.wrap z = (y : Int) := by rw [IntKind.wrap]; simp [IntKind.signed, IntKind.bits]; omega
    have hc2 : IntKind.u64.wrap (-(z + 1)) = (v : Int) := by rw [IntKind.wrap]; simp [IntKind.signed, IntKind.bits]; omega
    have hvz : -(z + 1) = (v : Int) := by omega
    rw [← hu]
    go_enter Tryz.func33, Tryz.ntmps33
    go_wp2_with fail
    have m0 := HM0.out
    clear HM0
    generalize (w.alloc (.cells #[.bool false, .slice none 0 0, .int .i64 0] 24)) = W at *
    have hnum := fun V => rnumber_c y V (by omega)
    rw [hy] at hnum
    have HNUM := Lib.hid hnum
    clear hnum
    refine (HNUM.out W).mono ?_
    rintro e w1 ⟨A1, n1, c1, ds, rfl, hr1, hd1, hv1, hl1, hb1⟩
    have m1 := heldz hb1 m0
    have hw1 := hW.trans (hb1.mono hW.size)
    clear hr1 hd1 hv1
    have m2 := heldA (.cells #[.bool false, .slice A1 n1 c1, .int .i64 0] 87) m1
    have mB := World.alloc_heap_new w1 (.cells #[.bool false, .slice A1 n1 c1, .int .i64 0] 87)
    have hw2 := hw1.alloc hw1.size (.cells #[.bool false, .slice A1 n1 c1, .int .i64 0] 87)
    have hsz2 : (w1.alloc (.cells #[.bool false, .slice A1 n1 c1, .int .i64 0] 87)).heap.size = w1.heap.size + 1 := by simp
    have hvz2 : -(z + 1) = (v : Int) := hvz
    have hlt : w.heap.size < w1.heap.size := by have := hb1.size; omega
    go_wp2_with fail
    generalize (w1.alloc (.cells #[.bool false, .slice A1 n1 c1, .int .i64 0] 87)) = W2 at *
    refine (rnumber_c v W2 (by omega)).mono ?_
    rintro e w3 ⟨A3, n3, c3, ds3, rfl, hr3, hd3, hv3, hl3, hb3⟩
    have m3 := heldz hb3 m2
    have mC := heldz hb3 mB
    have hw3 := hw2.trans (hb3.mono hw2.size)
    clear m2 mB m0 m1
    have HD := Lib.hid hd3
    have HV := Lib.hid hv3
    clear hd3 hv3
    go_wp2_with fail
    have hltP : w1.heap.size < (w3.alloc (.cells #[.int .i64 1] 3)).heap.size := by have := hb3.size; simp; omega
    have hlit := ResI.lit w3 [1] 1 rfl (LI.one (by omega)) (by omega)
    have hq1 : (i64s [1]).toArray = #[Value.int IntKind.i64 1] := by simp [i64s]
    rw [hq1] at hlit
    have hd1 : Hid (DCan [1]) := ⟨D10.cons.2 ⟨by omega, D10.nil⟩, .inr (by decide)⟩
    have m4 := heldA (.cells #[.int .i64 1] 3) m3
    have mD := heldA (.cells #[.int .i64 1] 3) mC
    have hw4 := hw3.alloc hw3.size (.cells #[.int .i64 1] 3)
    have hr4 := hr3.below (B := w3.heap.size) ((Below.refl _ w3).alloc (Nat.le_refl _) (.cells #[.int .i64 1] 3)) (Nat.le_refl _)
    refine (Plus_c _ hr4.rd hlit.rd (fun b h => h.2) (fun b h => h.2) HD.out.1 hd1.out.1 (by omega) (by omega)).mono ?_
    rintro e w5 ⟨A5, n5, c5, ds5, rfl, hr5, hd5, hv5, hb5⟩
    have HV5 : Hid (dval ds5 = u) := by
      show _ = _
      rw [hv5, HV.out, ← hv]; simp [dval, dp]
    have HD5 := Lib.hid hd5
    have m5 := heldz hb5 m4
    have mE := heldz hb5 mD
    have hw5 := hw4.trans (hb5.mono hw4.size)
    have hlt5 : w1.heap.size < w5.heap.size := (Array.getElem?_eq_some_iff.1 mE).1
    clear hv5 hd5 m4 mD m3 mC hlit
    have y0 : w5.cell? ⟨w1.heap.size, 0, none⟩ = some (.bool false) := cell_of mE rfl
    have y1 : w5.cell? ⟨w1.heap.size, 1, none⟩ = some (.slice A1 n1 c1) := cell_of mE rfl
    have y2 : w5.cell? ⟨w1.heap.size, 2, none⟩ = some (.int .i64 0) := cell_of mE rfl
    have f0 := frozen_of 0 mE
    have f1 := frozen_of 1 mE
    have f2 := frozen_of 2 mE
    go_wp2_with fail
    have hl5 : n5 ≤ 100000 := by
      have h := HD5.out.len_le (m := 40) (by rw [HV5.out]; have := ten19; omega)
      rw [hr5.len] at h; omega
    have hw6 : Below w.heap.size w (((w5.setCell ⟨w1.heap.size, 0, none⟩ (.bool true)).setCell ⟨w1.heap.size, 1, none⟩ (.slice A5 n5 c5)).setCell ⟨w1.heap.size, 2, none⟩ (.int .i64 0)) :=
      ((hw5.setCell (p := ⟨w1.heap.size, 0, none⟩) hw1.size _).setCell (p := ⟨w1.heap.size, 1, none⟩) hw1.size _).setCell (p := ⟨w1.heap.size, 2, none⟩) hw1.size _
    have hb6 : Below w1.heap.size w5 (((w5.setCell ⟨w1.heap.size, 0, none⟩ (.bool true)).setCell ⟨w1.heap.size, 1, none⟩ (.slice A5 n5 c5)).setCell ⟨w1.heap.size, 2, none⟩ (.int .i64 0)) :=
      (((Below.refl _ w5).setCell (p := ⟨w1.heap.size, 0, none⟩) (Nat.le_refl _) _).setCell (p := ⟨w1.heap.size, 1, none⟩) (Nat.le_refl _) _).setCell (p := ⟨w1.heap.size, 2, none⟩) (Nat.le_refl _) _
    have m6 := held hb6 hlt m5
    have hr6 := ((hr5.setOther (p := ⟨w1.heap.size, 0, none⟩) hltP (.bool true)).setOther (p := ⟨w1.heap.size, 1, none⟩) hltP (.slice A5 n5 c5)).setOther (p := ⟨w1.heap.size, 2, none⟩) hltP (.int .i64 0)
    have hncb := hr5.n_le
    have hmx : maxLen ≤ 9223372036854775807 := by decide
    clear m5 mE y0 y1 y2 f0 f1 f2
    generalize (((w5.setCell ⟨w1.heap.size, 0, none⟩ (.bool true)).setCell ⟨w1.heap.size, 1, none⟩ (.slice A5 n5 c5)).setCell ⟨w1.heap.size, 2, none⟩ (.int .i64 0)) = W6 at *
    have hM := Made_c (c := c5) true 0 W6 hr6.rd (fun b h => h.2) HD5.out.1 hl5 hncb.1 (by omega) (by omega)
    have hE0 := stE_small (v := u) (by have := ten19; omega)
    rw [HV5.out, hE0] at hM
    unfold nv dv at hM
    have HM := Lib.hid hM
    clear hM
    refine HM.out.mono ?_
    rintro e w7 ⟨A7, n7, c7, rfl, hr7, hb7⟩
    have m7 := heldz hb7 m6
    have hw7 := hw6.trans (hb7.mono hw6.size)
    have m8 := heldA (.cells #[.bool (stN true u 0), .slice A7 n7 c7, .int .i64 (stX u 0)] 24) m7
    have hw8 := hw7.alloc hw7.size (.cells #[.bool (stN true u 0), .slice A7 n7 c7, .int .i64 (stX u 0)] 24)
    have hr8 := hr7.below (B := w7.heap.size) ((Below.refl _ w7).alloc (Nat.le_refl _) (.cells #[.bool (stN true u 0), .slice A7 n7 c7, .int .i64 (stX u 0)] 24)) (Nat.le_refl _)
    obtain ⟨y0, y1, y2⟩ := box3_of m8
    have f0 := frozen_of 0 m8
    have f1 := frozen_of 1 m8
    have f2 := frozen_of 2 m8
    have hlt7 : w.heap.size < W6.heap.size := (Array.getElem?_eq_some_iff.1 m6).1
    clear m6 m7 m8 hr5 hr6 hr7
    clear hu hv
    go_wp2
    refine bodyPost_ret (v := .agg #[.bool (stN true u 0), .slice A7 n7 c7, .int .i64 (stX u 0)]) (by simp [results, Tryz.results33, go_sem, y0, y1, y2]) rfl ?_
    exact ⟨A7, n7, c7, rfl, (((hr8.setOther (p := ⟨w.heap.size, 0, none⟩) hlt7 _).setOther (p := ⟨w.heap.size, 1, none⟩) hlt7 _).setOther (p := ⟨w.heap.size, 2, none⟩) hlt7 _).more hw6.size,
      ((hw8.setCell (p := ⟨w.heap.size, 0, none⟩) (Nat.le_refl _) _).setCell (p := ⟨w.heap.size, 1, none⟩) (Nat.le_refl _) _).setCell (p := ⟨w.heap.size, 2, none⟩) (Nat.le_refl _) _⟩
  · rw [decide_eq_false hz]
    obtain ⟨u, hu⟩ : ∃ u : Nat, z = (u : Int) := ⟨z.toNat, by omega⟩
    subst hu
    have hc1 : IntKind.u64.wrap (u : Int) = (u : Int) := by rw [IntKind.wrap]; simp [IntKind.signed, IntKind.bits]; omega
    have hab : ((u : Int)).natAbs = u := by omega
    rw [hab]
    go_enter Tryz.func33, Tryz.ntmps33
    go_wp2_with fail
    have m0 := HM0.out
    clear HM0
    generalize (w.alloc (.cells #[.bool false, .slice none 0 0, .int .i64 0] 24)) = W at *
    refine (rnumber_c u W (by omega)).mono ?_
    rintro e w1 ⟨A5, n5, c5, ds5, rfl, hr5, hd5, hv5, hl1, hb1⟩
    have m1 := heldz hb1 m0
    have hw1 := hW.trans (hb1.mono hW.size)
    have HV5 := Lib.hid hv5
    have HD5 := Lib.hid hd5
    clear hd5 hv5 m0
    have m2 := heldA (.cells #[.bool false, .slice A5 n5 c5, .int .i64 0] 87) m1
    have mB := World.alloc_heap_new w1 (.cells #[.bool false, .slice A5 n5 c5, .int .i64 0] 87)
    have hw6 := hw1.alloc hw1.size (.cells #[.bool false, .slice A5 n5 c5, .int .i64 0] 87)
    have hr6 := hr5.below (B := w1.heap.size) ((Below.refl _ w1).alloc (Nat.le_refl _) (.cells #[.bool false, .slice A5 n5 c5, .int .i64 0] 87)) (Nat.le_refl _)
    have m6 := m2
    have hncb := hr5.n_le
    clear m2 m1
    go_wp2_with fail
    have hmx : maxLen ≤ 9223372036854775807 := by decide
    generalize (w1.alloc (.cells #[.bool false, .slice A5 n5 c5, .int .i64 0] 87)) = W6 at *
    have hM := Made_c (c := c5) false 0 W6 hr6.rd (fun b h => h.2) HD5.out.1 (by omega) hncb.1 (by omega) (by omega)
    have hE0 := stE_small (v := u) (by have := ten19; omega)
    rw [HV5.out, hE0] at hM
    unfold nv dv at hM
    have HM := Lib.hid hM
    clear hM
    refine HM.out.mono ?_
    rintro e w7 ⟨A7, n7, c7, rfl, hr7, hb7⟩
    have m7 := heldz hb7 m6
    have hw7 := hw6.trans (hb7.mono hw6.size)
    have m8 := heldA (.cells #[.bool (stN false u 0), .slice A7 n7 c7, .int .i64 (stX u 0)] 24) m7
    have hw8 := hw7.alloc hw7.size (.cells #[.bool (stN false u 0), .slice A7 n7 c7, .int .i64 (stX u 0)] 24)
    have hr8 := hr7.below (B := w7.heap.size) ((Below.refl _ w7).alloc (Nat.le_refl _) (.cells #[.bool (stN false u 0), .slice A7 n7 c7, .int .i64 (stX u 0)] 24)) (Nat.le_refl _)
    obtain ⟨y0, y1, y2⟩ := box3_of m8
    have f0 := frozen_of 0 m8
    have f1 := frozen_of 1 m8
    have f2 := frozen_of 2 m8
    have hlt7 : w.heap.size < W6.heap.size := (Array.getElem?_eq_some_iff.1 m6).1
    clear m6 m7 m8 hr5 hr6 hr7
    go_wp2
    refine bodyPost_ret (v := .agg #[.bool (stN false u 0), .slice A7 n7 c7, .int .i64 (stX u 0)]) (by simp [results, Tryz.results33, go_sem, y0, y1, y2]) rfl ?_
    exact ⟨A7, n7, c7, rfl, (((hr8.setOther (p := ⟨w.heap.size, 0, none⟩) hlt7 _).setOther (p := ⟨w.heap.size, 1, none⟩) hlt7 _).setOther (p := ⟨w.heap.size, 2, none⟩) hlt7 _).more hw6.size,
      ((hw8.setCell (p := ⟨w.heap.size, 0, none⟩) (Nat.le_refl _) _).setCell (p := ⟨w.heap.size, 1, none⟩) (Nat.le_refl _) _).setCell (p := ⟨w.heap.size, 2, none⟩) (Nat.le_refl _) _⟩
end Go.Proofs.YtpmdcahomkdfmaaGreatDoor

namespace Go.Proofs.YtpmdcahomkdfmaaGreatDoor
open Go.RowKit

set_option maxRecDepth 100000 in
set_option maxHeartbeats 4000000 in
theorem rnum_c (w : World) (z : Int) (h1 : -9223372036854775808 ≤ z) (h2 : z ≤ 9223372036854775807) (hl : (stZ z.natAbs 0).length ≤ 35184372088832) :
    Calls Tryz.prog 11 #[.int .i64 z] w fun e' w' => ∃ cs', e' = .returned (.agg cs'.toArray) ∧ VIn w' (Own' w.heap.size w') (.mk 3 (stN (decide (z < 0)) z.natAbs 0) (stZ z.natAbs 0) (stX z.natAbs 0) ⟨#[]⟩ [] []) cs' ∧ Below w.heap.size w w' := by
  have hW : Below w.heap.size w (w.alloc (.cells #[.int .i64 0, .bool false, .slice none 0 0, .int .i64 0, .string ⟨#[]⟩, .slice none 0 0, .slice none 0 0] 28)) := (Below.refl _ w).alloc (Nat.le_refl _) _
  have hm2 := World.alloc_heap_new w (.cells #[.int .i64 0, .bool false, .slice none 0 0, .int .i64 0, .string ⟨#[]⟩, .slice none 0 0, .slice none 0 0] 28)
  have hz : (w.alloc (.cells #[.int .i64 0, .bool false, .slice none 0 0, .int .i64 0, .string ⟨#[]⟩, .slice none 0 0, .slice none 0 0] 28)).heap.size = w.heap.size + 1 := by simp
  go_enter Tryz.func11, Tryz.ntmps11
  go_upto_region 1 with fail
  generalize (w.alloc (.cells #[.int .i64 0, .bool false, .slice none 0 0, .int .i64 0, .string ⟨#[]⟩, .slice none 0 0, .slice none 0 0] 28)) = W0 at *
  have HC := RInt_c z W0 h1 h2
  have HM2 := Lib.hid hm2
  have HW := Lib.hid hW
  clear hm2 hW
  unfold dv at HC
  go_wp2_with fail
  refine HC.mono ?_
  rintro e' w1 ⟨A, n, c, rfl, hres, hb1⟩
  clear HC
  have hv : VIn w1 (Own' W0.heap.size w1) (.mk 3 (stN (decide (z < 0)) z.natAbs 0) (stZ z.natAbs 0) (stX z.natAbs 0) ⟨#[]⟩ [] []) [.int .i64 3, .bool (stN (decide (z < 0)) z.natAbs 0), .slice A n c, .int .i64 (stX z.natAbs 0), .string ⟨#[]⟩, .slice none 0 0, .slice none 0 0] :=
    .mk (cs := fun _ => []) hres.rd (by rw [← hres.len]; exact hl) (by decide) ⟨rfl, fun h0 => absurd h0 (by omega)⟩ (by omega) rfl (by omega) (Nat.le_refl _) (fun h0 => absurd h0 (by omega)) (fun i x hi => by simp at hi)
  have HRES := Lib.hid hres
  clear hres
  have hmz := (hb1.block _ (by omega)).trans HM2.out
  obtain ⟨z0, z1, z2, z3, z4, z5, z6⟩ := box7_of hmz
  have fz : ∀ j, w1.frozen? ⟨w.heap.size, j, none⟩ = false := fun j => frozen_of_row w1 _ j _ _ hmz
  have HV := Lib.hid hv
  clear hv hmz
  go_wp2_with fail
  refine bodyPost_ret (v := .agg #[.int .i64 3, .bool (stN (decide (z < 0)) z.natAbs 0), .slice A n c, .int .i64 (stX z.natAbs 0), .string ⟨#[]⟩, .slice none 0 0, .slice none 0 0]) (by simp [results, Tryz.results11, go_sem, z0, z1, z2, z3, z4, z5, z6]) rfl ?_
  refine ⟨[.int .i64 3, .bool (stN (decide (z < 0)) z.natAbs 0), .slice A n c, .int .i64 (stX z.natAbs 0), .string ⟨#[]⟩, .slice none 0 0, .slice none 0 0], rfl, ?_, below_seven (HW.out.trans (hb1.mono (by omega))) (by omega) _ _ _ _ _ _ _⟩
  refine (HV.out.keep fun p hp => ?_).more fun b hb => ⟨by have := hb.1; omega, ?_⟩
  · have h1 := hp.1
    exact cell_seven (by omega) _ _ _ _ _ _ _
  · have := hb.2
    simpa [World.setCell] using this

/-- Number(z). -/
def numT (z : Int) : VT := .mk 3 (stN (decide (z < 0)) z.natAbs 0) (stZ z.natAbs 0) (stX z.natAbs 0) ⟨#[]⟩ [] []
end Go.Proofs.YtpmdcahomkdfmaaGreatDoor



namespace Go.Proofs.YtpmdcahomkdfmaaGreatDoor
open Go.RowKit

theorem Res.drewN {w : World} {base n c : Nat} {A : Option Addr} {zs : List Nat} (h : Res w base A n c zs) (k : Nat) : Res (w.drewN k) base A n c zs := h.keep fun _ _ => rfl
theorem Rd.only {a w : World} {S : Nat → Prop} {g n : Nat} {A : Option Addr} {xs : List Nat} (h : Rd a S A n xs) (hg : a.grownBy w (some g)) (hS : ∀ b, S b → b ≠ g) : Rd w S A n xs :=
  ⟨h.len, h.l32, fun hn => by
    obtain ⟨b, off, e, hs, hc⟩ := h.cells hn
    exact ⟨b, off, e, hs, fun j hj => only_cell hg (hS b hs) (hc j hj)⟩⟩
end Go.Proofs.YtpmdcahomkdfmaaGreatDoor

namespace Go.Proofs.YtpmdcahomkdfmaaGreatDoor
open Go.RowKit

/-- A number that may be. -/
structure Fit (xs : List Nat) : Prop where
  can : Can xs
  len : xs.length ≤ 256
theorem Fit.lim {v : Nat} (h : v < bp 256) : Fit (lim v) := ⟨lim_can v, lim_len h⟩
/-- The coefficient times ten to the power, as it is if that is below 0. -/
def wd (v : Nat) (p : Int) : Nat := v * 10 ^ p.toNat
end Go.Proofs.YtpmdcahomkdfmaaGreatDoor

namespace Go.Proofs.YtpmdcahomkdfmaaGreatDoor
open Go.RowKit

/-- The error of Settle ahead of settling. -/
def seE (xs : List Nat) (exp : Int) : Nat := if chk xs = 0 then (if -4000 ≤ exp ∧ exp ≤ 4000 then 0 else 52) else chk xs

/-- What Settle answers. -/
def sN (neg : Bool) (xs : List Nat) (exp : Int) : Bool := if seE xs exp = 0 then stN neg (val xs) exp else false
def sX (xs : List Nat) (exp : Int) : Int := if seE xs exp = 0 then stX (val xs) exp else 0
def sZ (xs : List Nat) (exp : Int) : List Nat := if seE xs exp = 0 then stZ (val xs) exp else []
def sE (xs : List Nat) (exp : Int) : Nat := if seE xs exp = 0 then stE (val xs) exp else seE xs exp
def SetT (e : Ending) (w' : World) (base : Nat) (neg : Bool) (xs : List Nat) (exp : Int) : Prop := ∃ A n c, e = .returned (.tuple #[dv (sN neg xs exp) A n c (sX xs exp), .int .i64 (sE xs exp : Int)]) ∧ Res w' base A n c (sZ xs exp)
theorem setT_of {e : Ending} {w' : World} {base E : Nat} {neg : Bool} {xs : List Nat} {exp : Int} (hE : seE xs exp = E) (h0 : E ≠ 0 → e = .returned (.tuple #[.agg #[.bool false, .slice none 0 0, .int .i64 0], .int .i64 (E : Int)])) (h1 : E = 0 → ∃ A n c, e = .returned (.tuple #[.agg #[.bool (stN neg (val xs) exp), .slice A n c, .int .i64 (stX (val xs) exp)], .int .i64 (stE (val xs) exp : Int)]) ∧ Res w' base A n c (stZ (val xs) exp)) : SetT e w' base neg xs exp := by
  unfold SetT sN sX sZ sE dv
  by_cases h : E = 0
  · rw [if_pos (hE.trans h), if_pos (hE.trans h), if_pos (hE.trans h), if_pos (hE.trans h)]
    exact h1 h
  · have hn : ¬ seE xs exp = 0 := fun h2 => h (hE.symm.trans h2)
    rw [if_neg hn, if_neg hn, if_neg hn, if_neg hn, hE]
    exact ⟨none, 0, 0, h0 h, Res.nil _ _⟩

set_option maxRecDepth 100000 in
set_option maxHeartbeats 1000000 in
theorem DSettle_v {S : Nat → Prop} {n c : Nat} {A : Option Addr} {xs : List Nat} (neg : Bool) (exp : Int) (w : World) (ha : Rd w S A n xs) (hS : ∀ b, S b → b < w.heap.size) (hn : n ≤ 9223372036854775807) :
    Calls Tryz.prog 52 #[.bool neg, .slice A n c, .int .i64 exp] w fun e w' => SetT e w' w.heap.size neg xs exp ∧ Below w.heap.size w w' := by
  have hb0 : ∀ o, Below w.heap.size w (w.alloc o) := fun o => (Below.refl _ _).alloc (Nat.le_refl _) _
  have hW := hb0 (.cells #[.bool false, .slice none 0 0, .int .i64 0] 24)
  have m0 := World.alloc_heap_new w (.cells #[.bool false, .slice none 0 0, .int .i64 0] 24)
  have hsz : (w.alloc (.cells #[.bool false, .slice none 0 0, .int .i64 0] 24)).heap.size = w.heap.size + 1 := by simp
  have HM0 := Lib.hid m0
  clear m0
  obtain ⟨E, hE⟩ : ∃ E : Nat, Hid (seE xs exp = E) := ⟨_, Lib.hid rfl⟩
  go_enter Tryz.func52, Tryz.ntmps52
  go_wp2_with fail
  have m0 := HM0.out
  clear HM0
  generalize (w.alloc (.cells #[.bool false, .slice none 0 0, .int .i64 0] 24)) = W at m0 hW hsz ⊢
  refine (Print_c (c := c) W (ha.below hW hS) (fun b h => by have := hS b h; omega) hn).mono ?_
  rintro e w1 ⟨s, rfl, hs1, _, hsz1, hb1⟩
  have hw1 := hW.trans (hb1.mono (by omega))
  have m1 := held hb1 (by omega) m0
  have y0 : w1.cell? ⟨w.heap.size, 0, none⟩ = some (.bool false) := cell_of m1 rfl
  have y1 : w1.cell? ⟨w.heap.size, 1, none⟩ = some (.slice none 0 0) := cell_of m1 rfl
  have y2 : w1.cell? ⟨w.heap.size, 2, none⟩ = some (.int .i64 0) := cell_of m1 rfl
  have f0 := frozen_of 0 m1
  have f1 := frozen_of 1 m1
  have f2 := frozen_of 2 m1
  have hs1' := hb1.size
  have hend : Below w.heap.size w (((w1.setCell ⟨w.heap.size, 0, none⟩ (.bool false)).setCell ⟨w.heap.size, 1, none⟩ (.slice none 0 0)).setCell ⟨w.heap.size, 2, none⟩ (.int .i64 0)) :=
    ((hw1.setCell (p := ⟨w.heap.size, 0, none⟩) (Nat.le_refl _) _).setCell (p := ⟨w.heap.size, 1, none⟩) (Nat.le_refl _) _).setCell (p := ⟨w.heap.size, 2, none⟩) (Nat.le_refl _) _
  by_cases h0 : chk xs = 0
  · have hce : (((chk xs : Nat) : Int) != 0) = false := by rw [h0]; rfl
    have HS := Lib.hid (hs1 h0).2
    by_cases hx : -4000 ≤ exp ∧ exp ≤ 4000
    · have hE0 : Hid (E = 0) := by show _ = _; rw [← hE.out]; unfold seE; rw [if_pos h0, if_pos hx]
      obtain ⟨hx1, hx2⟩ := hx
      obtain ⟨d1, d2⟩ := isDec_dig HS.out
      have D2 := Lib.hid d2
      have hS3 := settle_c neg none 0 0 exp s w1 (by omega) d1 (by omega)
      rw [D2.out] at hS3
      unfold rv at hS3
      have HS3 := Lib.hid hS3
      have H0 := Lib.hid h0
      clear hs1 h0 d1 d2 hS3 y0 y1 y2 f0 f1 f2
      go_wp2_with fail
      refine HS3.out.mono ?_
      rintro e w3 ⟨A', n', c', rfl, hr3, hb3⟩
      have m3 := held hb3 (by omega) m1
      have y0 : w3.cell? ⟨w.heap.size, 0, none⟩ = some (.bool false) := cell_of m3 rfl
      have y1 : w3.cell? ⟨w.heap.size, 1, none⟩ = some (.slice none 0 0) := cell_of m3 rfl
      have y2 : w3.cell? ⟨w.heap.size, 2, none⟩ = some (.int .i64 0) := cell_of m3 rfl
      have f0 := frozen_of 0 m3
      have f1 := frozen_of 1 m3
      have f2 := frozen_of 2 m3
      have hw3 := hw1.trans (hb3.mono hw1.size)
      have hlt : w.heap.size < w1.heap.size := by omega
      clear m3 m1 m0
      dsimp only [dv]
      go_wp2
      refine bodyPost_ret (v := .tuple #[.agg #[.bool (stN neg (val xs) exp), .slice A' n' c', .int .i64 (stX (val xs) exp)], .int .i64 (stE (val xs) exp : Int)]) (by simp [results, Tryz.results52, go_sem, y0, y1, y2]) rfl ?_
      refine ⟨setT_of hE.out (fun h => absurd hE0.out h) (fun _ => ⟨A', n', c', rfl, ?_⟩), ?_⟩
      · exact (((hr3.setOther (p := ⟨w.heap.size, 0, none⟩) hlt _).setOther (p := ⟨w.heap.size, 1, none⟩) hlt _).setOther (p := ⟨w.heap.size, 2, none⟩) hlt _).more hw1.size
      · exact ((hw3.setCell (p := ⟨w.heap.size, 0, none⟩) (Nat.le_refl _) _).setCell (p := ⟨w.heap.size, 1, none⟩) (Nat.le_refl _) _).setCell (p := ⟨w.heap.size, 2, none⟩) (Nat.le_refl _) _
    · have hE0 : Hid (E = 52) := by show _ = _; rw [← hE.out]; unfold seE; rw [if_pos h0, if_neg hx]
      have hxx : exp < -4000 ∨ 4000 < exp := by omega
      clear hs1 h0 hx
      rcases hxx with hx | hx
      all_goals
        go_wp2
        refine bodyPost_ret (v := .tuple #[.agg #[.bool false, .slice none 0 0, .int .i64 0], .int .i64 52]) (by simp [results, Tryz.results52, go_sem, y0, y1, y2]) rfl ?_
        refine ⟨setT_of hE.out (fun h => by rw [hE0.out] <;> rfl) (fun h => absurd (hE0.out.symm.trans h) (by decide)), hend⟩
  · have hce : (((chk xs : Nat) : Int) != 0) = true := by rw [bne_iff_ne]; omega
    have hE0 : Hid (E = chk xs) := by show _ = _; rw [← hE.out]; unfold seE; rw [if_neg h0]
    have H0 := Lib.hid h0
    clear hs1 h0
    go_wp2
    refine bodyPost_ret (v := .tuple #[.agg #[.bool false, .slice none 0 0, .int .i64 0], .int .i64 (chk xs : Int)]) (by simp [results, Tryz.results52, go_sem, y0, y1, y2]) rfl ?_
    refine ⟨setT_of hE.out (fun h => by rw [hE0.out] <;> rfl) (fun h => absurd (hE0.out.symm.trans h) H0.out), hend⟩

end Go.Proofs.YtpmdcahomkdfmaaGreatDoor
