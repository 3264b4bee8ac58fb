/-
  Contract of value's Number.
  The page's example of Compare: a number stands ahead of a text. Pure.
  The page's example of Object: keys b, a, b. Pure.
  The page's example of value answers true.
-/
import Derived.Test.YtklpfgjnlheikaaGreatDoorVcpy
import Derived.Test.YtklpfgjnlheikaaGreatDoorDintc
import Derived.Test.YtklpfgjnlheikaaGreatDoorVcm
import Derived.Test.YtklpfgjnlheikaaGreatDoorVob
import Derived.Test.YtklpfgjnlheikaaGreatDoorVorderw
set_option linter.unusedVariables false
set_option linter.unusedSimpArgs false
namespace Go.Proofs.YtklpfgjnlheikaaGreatDoor
open Go.RowKit

set_option maxRecDepth 100000 in
set_option maxHeartbeats 4000000 in
theorem number_c (w : World) (z : Int) (h1 : -9223372036854775808 ≤ z) (h2 : z ≤ 9223372036854775807) (hl : (stZ z.natAbs 0).length ≤ 35184372088832) :
    Calls Tryz.prog 39 #[.int .i64 z] w fun e' w' => ∃ cs', e' = .returned (.agg cs'.toArray) ∧ VIn w' (Own' w.heap.size w') (.mk 3 (stN (decide (z < 0)) z.natAbs 0) (stZ z.natAbs 0) (stX z.natAbs 0) ⟨#[]⟩ [] []) cs' ∧ Below w.heap.size w w' := by
  have hW : Below w.heap.size w (w.alloc (.cells #[.int .i64 0, .bool false, .slice none 0 0, .int .i64 0, .string ⟨#[]⟩, .slice none 0 0, .slice none 0 0] 53)) := (Below.refl _ w).alloc (Nat.le_refl _) _
  have hm2 := World.alloc_heap_new w (.cells #[.int .i64 0, .bool false, .slice none 0 0, .int .i64 0, .string ⟨#[]⟩, .slice none 0 0, .slice none 0 0] 53)
  have hz : (w.alloc (.cells #[.int .i64 0, .bool false, .slice none 0 0, .int .i64 0, .string ⟨#[]⟩, .slice none 0 0, .slice none 0 0] 53)).heap.size = w.heap.size + 1 := by simp
  go_enter Tryz.func39, Tryz.ntmps39
  go_upto_region 1 with fail
  generalize (w.alloc (.cells #[.int .i64 0, .bool false, .slice none 0 0, .int .i64 0, .string ⟨#[]⟩, .slice none 0 0, .slice none 0 0] 53)) = W0 at *
  have HC := DInt_c z W0 h1 h2
  have HM2 := Lib.hid hm2
  have HW := Lib.hid hW
  clear hm2 hW
  unfold dv at HC
  go_wp2_with fail
  refine HC.mono ?_
  rintro e' w1 ⟨A, n, c, rfl, hres, hb1⟩
  clear HC
  have hv : VIn w1 (Own' W0.heap.size w1) (.mk 3 (stN (decide (z < 0)) z.natAbs 0) (stZ z.natAbs 0) (stX z.natAbs 0) ⟨#[]⟩ [] []) [.int .i64 3, .bool (stN (decide (z < 0)) z.natAbs 0), .slice A n c, .int .i64 (stX z.natAbs 0), .string ⟨#[]⟩, .slice none 0 0, .slice none 0 0] :=
    .mk (cs := fun _ => []) hres.rd (by rw [← hres.len]; exact hl) (by decide) ⟨rfl, fun h0 => absurd h0 (by omega)⟩ (by omega) rfl (by omega) (Nat.le_refl _) (fun h0 => absurd h0 (by omega)) (fun i x hi => by simp at hi)
  have HRES := Lib.hid hres
  clear hres
  have hmz := (hb1.block _ (by omega)).trans HM2.out
  obtain ⟨z0, z1, z2, z3, z4, z5, z6⟩ := box7_of hmz
  have fz : ∀ j, w1.frozen? ⟨w.heap.size, j, none⟩ = false := fun j => frozen_of_row w1 _ j _ _ hmz
  have HV := Lib.hid hv
  clear hv hmz
  go_wp2_with fail
  refine bodyPost_ret (v := .agg #[.int .i64 3, .bool (stN (decide (z < 0)) z.natAbs 0), .slice A n c, .int .i64 (stX z.natAbs 0), .string ⟨#[]⟩, .slice none 0 0, .slice none 0 0]) (by simp [results, Tryz.results39, go_sem, z0, z1, z2, z3, z4, z5, z6]) rfl ?_
  refine ⟨[.int .i64 3, .bool (stN (decide (z < 0)) z.natAbs 0), .slice A n c, .int .i64 (stX z.natAbs 0), .string ⟨#[]⟩, .slice none 0 0, .slice none 0 0], rfl, ?_, below_seven (HW.out.trans (hb1.mono (by omega))) (by omega) _ _ _ _ _ _ _⟩
  refine (HV.out.keep fun p hp => ?_).more fun b hb => ⟨by have := hb.1; omega, ?_⟩
  · have h1 := hp.1
    exact cell_seven (by omega) _ _ _ _ _ _ _
  · have := hb.2
    simpa [World.setCell] using this
end Go.Proofs.YtklpfgjnlheikaaGreatDoor

namespace Go.Proofs.YtklpfgjnlheikaaGreatDoor
open Go.RowKit

/-- Number(0) and Text(""). -/
def num0 : VT := .mk 3 (stN (decide ((0 : Int) < 0)) (0 : Int).natAbs 0) (stZ (0 : Int).natAbs 0) (stX (0 : Int).natAbs 0) ⟨#[]⟩ [] []
def text0 : VT := .mk 4 false [] 0 ⟨#[]⟩ [] []
theorem num0_len : (stZ (0 : Int).natAbs 0).length ≤ 35184372088832 := by
  have h : (stZ (0 : Int).natAbs 0).length = 0 := by kernel_rfl
  omega
theorem err_example : err2 num0 text0 = 0 := by kernel_rfl
theorem cmp_example : cmp2 num0 text0 = -1 := by kernel_rfl
end Go.Proofs.YtklpfgjnlheikaaGreatDoor

namespace Go.Proofs.YtklpfgjnlheikaaGreatDoor
open Go.RowKit Go.Maps

def ks3 : List ByteArray := [⟨#[98]⟩, ⟨#[97]⟩, ⟨#[98]⟩]
def kindT (k : Int) : VT := .mk k false [] 0 ⟨#[]⟩ [] []
def l3 : List VT := [kindT 1, kindT 2, kindT 0]
theorem keys3 : keysB ks3 = [⟨#[97]⟩, ⟨#[98]⟩] := by
  have h1 : strKeys (lastD (H := Unit) ks3 ks3.length) = [[97], [98]] := by kernel_rfl
  have h2 : keysL ks3 = [[97], [98]] := by
    unfold keysL
    rw [h1]
    exact List.mergeSort_of_pairwise (by decide)
  unfold keysB
  rw [h2]; rfl
theorem obj3 : objV ks3 l3 = .mk 6 false [] 0 ⟨#[]⟩ [kindT 2, kindT 0] [⟨#[97]⟩, ⟨#[98]⟩] := by
  unfold objV
  rw [keys3]
  have h1 : lastV ks3 l3 ⟨#[97]⟩ = kindT 2 := by kernel_rfl
  have h2 : lastV ks3 l3 ⟨#[98]⟩ = kindT 0 := by kernel_rfl
  rw [List.map_cons, List.map_cons, List.map_nil, h1, h2]
theorem err3 : errO ks3 l3 = 0 := by
  unfold errO
  rw [if_pos (by rfl), obj3]
  kernel_rfl
theorem res3 : resO ks3 l3 = .mk 6 false [] 0 ⟨#[]⟩ [kindT 2, kindT 0] [⟨#[97]⟩, ⟨#[98]⟩] := by
  unfold resO
  rw [if_pos err3, obj3]
end Go.Proofs.YtklpfgjnlheikaaGreatDoor

namespace Go.Proofs.YtklpfgjnlheikaaGreatDoor
open Go.RowKit

theorem Own'.lt {B : Nat} {w : World} {b : Nat} (h : Own' B w b) : b < w.heap.size := h.2

set_option maxRecDepth 100000 in
set_option maxHeartbeats 4000000 in
theorem alive_c (w : World) (hT : Tabs w) : Calls Tryz.prog 33 #[] w fun e w' => e = .returned (.bool true) ∧ Below w.heap.size w w' := by
  have HT := Lib.hid hT
  clear hT
  go_enter Tryz.func33, Tryz.ntmps33
  have HC1 := number_c w 0 (by omega) (by omega) num0_len
  go_wp2_with fail
  refine HC1.mono ?_
  rintro e' w1 ⟨cs1, rfl, hv1, hb1⟩
  have HV1 : Hid (VIn w1 (Own' w.heap.size w1) num0 cs1) := Lib.hid hv1
  clear HC1 hv1
  have HC2 := text_c w1 ⟨#[]⟩ (by decide)
  go_wp2_with fail
  refine HC2.mono ?_
  rintro e' w2 ⟨cs2, rfl, hv2, hb2⟩
  have HV2 : Hid (VIn w2 (Own' w1.heap.size w2) text0 cs2) := Lib.hid hv2
  clear HC2 hv2
  have hb02 := hb1.trans (hb2.mono hb1.size)
  have HC3 := VCompare_c (S := fun b => b < w2.heap.size) w2 (HT.out.below hb02) ((HV1.out.keep fun p hp => hb2.cell hp.lt).more fun b hb => Nat.lt_of_lt_of_le hb.lt hb2.size) (HV2.out.more fun b hb => hb.lt) (fun b h => h)
  rw [cmp_example, err_example] at HC3
  have HB02 := Lib.hid hb02
  clear hb1 hb2 hb02
  go_wp2_with fail
  refine HC3.mono ?_
  rintro e' w3 ⟨rfl, hb3⟩
  clear HC3
  have HB3 := Lib.hid (HB02.out.trans (hb3.mono HB02.out.size))
  clear hb3
  go_wp2_with fail
  have hg1 := World.alloc_heap_new w3 (.cells #[.string ⟨#[98]⟩, .string ⟨#[97]⟩, .string ⟨#[98]⟩] 9)
  have hg2 := World.alloc_heap_new (w3.alloc (.cells #[.string ⟨#[98]⟩, .string ⟨#[97]⟩, .string ⟨#[98]⟩] 9)) (.cells #[.int .i64 1, .bool false, .slice none 0 0, .int .i64 0, .string ⟨#[]⟩, .slice none 0 0, .slice none 0 0, .int .i64 2, .bool false, .slice none 0 0, .int .i64 0, .string ⟨#[]⟩, .slice none 0 0, .slice none 0 0, .int .i64 0, .bool false, .slice none 0 0, .int .i64 0, .string ⟨#[]⟩, .slice none 0 0, .slice none 0 0] 53)
  have hg3 := (Below.heap_alloc (w3.alloc (.cells #[.string ⟨#[98]⟩, .string ⟨#[97]⟩, .string ⟨#[98]⟩] 9)) (.cells #[.int .i64 1, .bool false, .slice none 0 0, .int .i64 0, .string ⟨#[]⟩, .slice none 0 0, .slice none 0 0, .int .i64 2, .bool false, .slice none 0 0, .int .i64 0, .string ⟨#[]⟩, .slice none 0 0, .slice none 0 0, .int .i64 0, .bool false, .slice none 0 0, .int .i64 0, .string ⟨#[]⟩, .slice none 0 0, .slice none 0 0] 53) w3.heap.size (by simp)).trans hg1
  rw [World.size_alloc] at hg2
  have hb4 : Below w3.heap.size w3 ((w3.alloc (.cells #[.string ⟨#[98]⟩, .string ⟨#[97]⟩, .string ⟨#[98]⟩] 9)).alloc (.cells #[.int .i64 1, .bool false, .slice none 0 0, .int .i64 0, .string ⟨#[]⟩, .slice none 0 0, .slice none 0 0, .int .i64 2, .bool false, .slice none 0 0, .int .i64 0, .string ⟨#[]⟩, .slice none 0 0, .slice none 0 0, .int .i64 0, .bool false, .slice none 0 0, .int .i64 0, .string ⟨#[]⟩, .slice none 0 0, .slice none 0 0] 53)) := ((Below.refl _ w3).alloc (Nat.le_refl _) _).alloc (by simp) _
  clear hg1
  generalize ((w3.alloc (.cells #[.string ⟨#[98]⟩, .string ⟨#[97]⟩, .string ⟨#[98]⟩] 9)).alloc (.cells #[.int .i64 1, .bool false, .slice none 0 0, .int .i64 0, .string ⟨#[]⟩, .slice none 0 0, .slice none 0 0, .int .i64 2, .bool false, .slice none 0 0, .int .i64 0, .string ⟨#[]⟩, .slice none 0 0, .slice none 0 0, .int .i64 0, .bool false, .slice none 0 0, .int .i64 0, .string ⟨#[]⟩, .slice none 0 0, .slice none 0 0] 53)) = w4 at *
  have hl2 := (Array.getElem?_eq_some_iff.1 hg2).1
  have hRT : RdT w4 (fun b => b < w4.heap.size) (some ⟨w3.heap.size, 0, none⟩) 3 ks3 := ⟨rfl, fun _ => ⟨_, 0, rfl, (Array.getElem?_eq_some_iff.1 hg3).1, fun i s hi => by
    rw [Nat.zero_add]
    match i, hi with
    | 0, hi => injection hi with hi; subst hi; exact ⟨cell_at hg3 rfl, by decide⟩
    | 1, hi => injection hi with hi; subst hi; exact ⟨cell_at hg3 rfl, by decide⟩
    | 2, hi => injection hi with hi; subst hi; exact ⟨cell_at hg3 rfl, by decide⟩⟩⟩
  have hkT : ∀ k : Int, VIn w4 (fun b => b < w4.heap.size) (kindT k) [.int .i64 k, .bool false, .slice none 0 0, .int .i64 0, .string ⟨#[]⟩, .slice none 0 0, .slice none 0 0] := fun k =>
    .mk (cs := fun _ => []) (Rd.nil _ _ _) (by omega) (by decide) ⟨rfl, fun h0 => absurd h0 (by omega)⟩ (by omega) rfl (by omega) (Nat.le_refl _) (fun h0 => absurd h0 (by omega)) (fun i x hi => by simp at hi)
  have hRL : RdL w4 (fun b => b < w4.heap.size) (some ⟨w3.heap.size + 1, 0, none⟩) 3 l3 := ⟨rfl, by omega, fun i => [.int .i64 (if i = 0 then 1 else if i = 1 then 2 else 0), .bool false, .slice none 0 0, .int .i64 0, .string ⟨#[]⟩, .slice none 0 0, .slice none 0 0], fun _ => ⟨_, 0, rfl, hl2, fun i hi => ⟨rfl, fun t ht => by
      rw [Nat.zero_add]
      match i, hi with
      | 0, _ => match t, ht with
        | 0, _ => exact cell_at hg2 rfl
        | 1, _ => exact cell_at hg2 rfl
        | 2, _ => exact cell_at hg2 rfl
        | 3, _ => exact cell_at hg2 rfl
        | 4, _ => exact cell_at hg2 rfl
        | 5, _ => exact cell_at hg2 rfl
        | 6, _ => exact cell_at hg2 rfl
      | 1, _ => match t, ht with
        | 0, _ => exact cell_at hg2 rfl
        | 1, _ => exact cell_at hg2 rfl
        | 2, _ => exact cell_at hg2 rfl
        | 3, _ => exact cell_at hg2 rfl
        | 4, _ => exact cell_at hg2 rfl
        | 5, _ => exact cell_at hg2 rfl
        | 6, _ => exact cell_at hg2 rfl
      | 2, _ => match t, ht with
        | 0, _ => exact cell_at hg2 rfl
        | 1, _ => exact cell_at hg2 rfl
        | 2, _ => exact cell_at hg2 rfl
        | 3, _ => exact cell_at hg2 rfl
        | 4, _ => exact cell_at hg2 rfl
        | 5, _ => exact cell_at hg2 rfl
        | 6, _ => exact cell_at hg2 rfl⟩⟩, fun i x hi => by
      match i, hi with
      | 0, hi => injection hi with hi; subst hi; exact hkT 1
      | 1, hi => injection hi with hi; subst hi; exact hkT 2
      | 2, hi => injection hi with hi; subst hi; exact hkT 0⟩
  have HB4 := Lib.hid (HB3.out.trans (hb4.mono HB3.out.size))
  have HC4 := object_c (kc := 3) (lc := 3) w4 (HT.out.below HB4.out) hRT hRL (by omega) (by omega) (fun b h => h)
  rw [err3, res3] at HC4
  clear hg2 hg3 hb4 hl2 hRT hkT hRL
  refine HC4.mono ?_
  rintro e' w5 ⟨cs5, rfl, hv5, hb5⟩
  clear HC4
  obtain ⟨A, n, c, LA, ln, lc, KA, kn, kc, rfl, _, _, _, _, hk5, _, _⟩ := hv5.parts
  obtain ⟨hk5l, hk5c⟩ := hk5
  have hkn : kn = 2 := hk5l.symm
  subst hkn
  obtain ⟨b, off, rfl, _, hk5d⟩ := hk5c (by omega)
  have hka := (hk5d 0 ⟨#[97]⟩ rfl).1
  have HB5 := Lib.hid (HB4.out.trans (hb5.mono HB4.out.size))
  clear hv5 hb5 hk5c hk5d hk5l
  rw [Nat.add_zero] at hka
  have hbl := cell_lt2 hka
  go_upto_region 3 with fail
  have hbx := World.alloc_heap_new w5 (.cells #[.int .i64 6, .bool false, .slice A n c, .int .i64 0, .string ⟨#[]⟩, .slice LA ln lc, .slice (some ⟨b, off, none⟩) 2 kc] 53)
  have hb6 : Below w5.heap.size w5 (w5.alloc (.cells #[.int .i64 6, .bool false, .slice A n c, .int .i64 0, .string ⟨#[]⟩, .slice LA ln lc, .slice (some ⟨b, off, none⟩) 2 kc] 53)) := (Below.refl _ w5).alloc (Nat.le_refl _) _
  generalize (w5.alloc (.cells #[.int .i64 6, .bool false, .slice A n c, .int .i64 0, .string ⟨#[]⟩, .slice LA ln lc, .slice (some ⟨b, off, none⟩) 2 kc] 53)) = w6 at *
  have hka6 : w6.cell? ⟨b, off, none⟩ = some (.string ⟨#[97]⟩) := (hb6.cell (p := ⟨b, off, none⟩) hbl).trans hka
  have HB6 := Lib.hid (HB5.out.trans (hb6.mono HB5.out.size))
  obtain ⟨x0, x1, x2, x3, x4, x5, x6⟩ := box7_of hbx
  clear hb6 hka hbx hbl
  go_wp2_with (first | (go_at_call 35; refine (lnum_c _ _).mono ?_; rintro e' w' ⟨rfl, rfl⟩))
  go_ret
  exact ⟨rfl, HB6.out⟩
end Go.Proofs.YtklpfgjnlheikaaGreatDoor
