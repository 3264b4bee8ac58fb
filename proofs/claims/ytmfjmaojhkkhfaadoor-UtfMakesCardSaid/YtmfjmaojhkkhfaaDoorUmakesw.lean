/-
  The walk of the law UtfMakes: it returns true, whatever the numbers are.
-/
import Derived.Test.YtmfjmaojhkkhfaaDoorUreft
set_option linter.unusedVariables false
set_option linter.unusedSimpArgs false
namespace Go.Proofs.YtmfjmaojhkkhfaaDoor
open Go.RowKit Go.Lib

set_option maxRecDepth 100000 in
set_option maxHeartbeats 1000000 in
theorem UtfMakes_c {S : Nat → Prop} {A : Option Addr} {n c : Nat} {l : List Int} (z a b : Int) (w : World) (hT : Tabs w) (hr : RdV w S A n (zs64 l)) (hS : ∀ b, S b → b < w.heap.size) (hl : L64 l) (hn : n ≤ 17592186044416)
    (hz : -9223372036854775808 ≤ z ∧ z ≤ 9223372036854775807) (ha : -9223372036854775808 ≤ a ∧ a ≤ 9223372036854775807) (hb : -9223372036854775808 ≤ b ∧ b ≤ 9223372036854775807) :
    Calls Tryd.prog 4 #[.slice A n c, .int .i64 z, .int .i64 a, .int .i64 b] w fun e w' => e = .returned (.bool true) ∧ Below w.heap.size w w' := by
  obtain ⟨r1, hr1⟩ : ∃ r1, z.tmod 5000 = r1 := ⟨_, rfl⟩
  have hr1b : -5000 < r1 ∧ r1 < 5000 := by
    rw [← hr1]
    have h1 := Int.tmod_lt_of_pos z (show (0 : Int) < 5000 by omega)
    have h2 := Int.lt_tmod_of_pos z (show (0 : Int) < 5000 by omega)
    omega
  obtain ⟨m, hm⟩ : ∃ m, (r1 + 5000).tmod 5000 = m := ⟨_, rfl⟩
  have hmb : 0 ≤ m ∧ m < 5000 := by
    rw [← hm]
    have h1 := Int.tmod_lt_of_pos (r1 + 5000) (show (0 : Int) < 5000 by omega)
    have h2 := Int.tmod_nonneg 5000 (show (0 : Int) ≤ r1 + 5000 by omega)
    omega
  have hA := fun V (h : Tabs V) => alive4_c V h
  have hCp := fun V (h : RdV V S A n (zs64 l)) => CopyInts_c (c := c) V h hn
  have hT1 := fun V (S' : Nat → Prop) A' c' (h : RdV V S' A' n (zs64 l)) hS' => Text_c (c := c') V h hS' hl hn
  have hT2 := fun V (h : RdV V S A n (zs64 l)) hS' => RText_c (c := c) V h hS' hn
  have hB1 := fun V => Bounds_c m a b V hmb.1 (by omega) ha hb
  have hB2 := fun V => RBounds_c m a b V hmb.1 (by omega) ha hb
  have hSm := fun V (S' : Nat → Prop) A' c' (h : RdV V S' A' n (zs64 l)) (h2 : RdV V S A n (zs64 l)) => SameInts_eq (c := c') (d := c) V h h2 (by omega)
  generalize mk8 (textT l) = TT at *
  generalize textE l = TE at *
  generalize wi m a = X at *
  generalize bnd2 m a b = Y at *
  have HA := Lib.hid hA
  have HCP := Lib.hid hCp
  have HT1 := Lib.hid hT1
  have HT2 := Lib.hid hT2
  have HB1 := Lib.hid hB1
  have HB2 := Lib.hid hB2
  have HSM := Lib.hid hSm
  have HT := Lib.hid hT
  have HR := Lib.hid hr
  clear hA hCp hT1 hT2 hB1 hB2 hSm hT hr hl
  obtain ⟨hz1, hz2⟩ := hz
  obtain ⟨hrb1, hrb2⟩ := hr1b
  obtain ⟨hmb1, hmb2⟩ := hmb
  have hw1 : IntKind.i64.wrap (r1 + 5000) = r1 + 5000 := IntWalk.i64_in _ (by omega)
  go_enter Tryd.func4, Tryd.ntmps4
  go_wp2_with fail
  refine (HCP.out w HR.out).mono ?_
  rintro e w1 ⟨A1, c1, rfl, q1, hb1⟩
  go_wp2_with fail
  refine (HT1.out w1 _ A1 c1 q1.rd (fun b h => h.2)).mono ?_
  rintro e w2 ⟨rfl, hb2⟩
  have q1 := q1.below hb2 (Nat.le_refl _)
  have hb2 := hb1.trans (hb2.mono hb1.size)
  go_wp2_with fail
  refine (HT2.out w2 (HR.out.below hb2 hS) (fun b h => by have := hS b h; have := hb2.size; omega)).mono ?_
  rintro e w3 ⟨rfl, hb3⟩
  have q1 := q1.below hb3 (Nat.le_refl _)
  have hb3 := hb2.trans (hb3.mono hb2.size)
  go_wp2_with fail
  refine (HB1.out w3).mono ?_
  rintro e w4 ⟨rfl, hb4⟩
  have q1 := q1.below hb4 (Nat.le_refl _)
  have hb4 := hb3.trans (hb4.mono hb3.size)
  go_wp2_with fail
  refine (HB2.out w4).mono ?_
  rintro e w5 ⟨rfl, hw5⟩
  have hw5 := hw5.symm
  subst hw5
  have HQ := Lib.hid q1
  clear q1
  go_wp2_with (first
    | (go_at_call 19; refine (num4_c _ _).mono ?_; rintro e w' ⟨rfl, rfl⟩)
    | fail)
  refine (HSM.out w4 _ A1 c1 HQ.out.rd (HR.out.below hb4 hS)).mono ?_
  rintro e w6 ⟨rfl, hb6⟩
  have hb6 := hb4.trans (hb6.mono hb4.size)
  go_wp2_with fail
  refine (HA.out w6 (HT.out.below hb6)).mono ?_
  rintro e w7 ⟨rfl, hb7⟩
  have hb7 := hb6.trans (hb7.mono hb6.size)
  go_wp2
  go_ret
  exact ⟨rfl, hb7⟩
end Go.Proofs.YtmfjmaojhkkhfaaDoor
