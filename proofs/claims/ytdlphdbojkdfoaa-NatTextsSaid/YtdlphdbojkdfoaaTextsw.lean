/-
  The walk of the law NatTexts: it returns true, whatever the text, the slice and the number are.
-/
import Derived.Test.YtdlphdbojkdfoaaRefi
import Derived.Test.YtdlphdbojkdfoaaTellsw
set_option linter.unusedVariables false
set_option linter.unusedSimpArgs false
namespace Go.Proofs.Ytdlphdbojkdfoaa
open Go.RowKit

set_option maxRecDepth 100000 in
set_option maxHeartbeats 2000000 in
theorem NatTexts_c {S1 : Nat → Prop} {n c : Nat} {A : Option Addr} {xs : List Nat} (s : ByteArray) (z : Int) (w : World) (ha : Rd w S1 A n xs)
    (hS1 : ∀ b, S1 b → b < w.heap.size) (hn : n ≤ 9223372036854775807) (hs : s.size ≤ 9223372036854775807) :
    Calls Try.prog 4 #[.string s, .slice A n c, .int .i64 z] w fun e w' => e = .returned (.bool true) ∧ Below w.heap.size w w' := by
  have up : ∀ {W : World} {S : Nat → Prop}, Below w.heap.size w W → (∀ b, S b → b < w.heap.size) → ∀ b, S b → b < W.heap.size := fun hW hS b h => by have := hS b h; have := hW.size; omega
  go_enter Try.func4, Try.ntmps4
  go_wp2_with fail
  refine (Parse_c s w hs).mono ?_
  rintro e w1 ⟨A1, n1, c1, rfl, r1, hw1⟩
  go_wp2_with fail
  refine (rParse_c s w1 hs).mono ?_
  rintro e w2 ⟨A2, n2, c2, rfl, r2, hb2⟩
  replace r1 := r1.below hb2 (Nat.le_refl _)
  have hw2 := hw1.trans (hb2.mono hw1.size)
  go_wp2_with fail
  refine (Print_c w2 (ha.below hw2 hS1) (up hw2 hS1) hn).mono ?_
  rintro e w3 ⟨t, rfl, ht1, ht2, _, hb3⟩
  replace r1 := r1.below hb3 (Nat.le_refl _)
  replace r2 := r2.below hb3 (Nat.le_refl _)
  have hw3 := hw2.trans (hb3.mono hw2.size)
  have HT1 := Lib.hid ht1
  have HT2 := Lib.hid ht2
  clear ht1 ht2
  go_wp2_with fail
  refine (rPrint_c w3 (ha.below hw3 hS1) (up hw3 hS1) hn).mono ?_
  rintro e w4 ⟨u, rfl, hu1, hu2, hb4⟩
  replace r1 := r1.below hb4 (Nat.le_refl _)
  replace r2 := r2.below hb4 (Nat.le_refl _)
  have hw4 := hw3.trans (hb4.mono hw3.size)
  obtain rfl : t = u := by
    by_cases h : chk xs = 0
    · exact (HT1.out h).2.unique (hu1 h).2
    · rw [HT2.out h, hu2 h]
  clear hu1 hu2 HT1 HT2
  by_cases hz : z < 0 ∨ 2400 < z
  · go_wp2_with fail
    refine (Pow_range z w4 hz).mono ?_
    rintro e w5 ⟨rfl, hk⟩
    have hw5 : Below w.heap.size w w5 := by rw [← hk]; exact hw4
    have hb5 : Below w4.heap.size w4 w5 := by rw [← hk]; exact Below.refl _ _
    replace r1 := r1.below hb5 (Nat.le_refl _)
    replace r2 := r2.below hb5 (Nat.le_refl _)
    clear hk
    go_wp2_with fail
    refine (rPow_range z w5 hz).mono ?_
    rintro e w6 ⟨rfl, hk⟩
    have hw6 : Below w.heap.size w w6 := by rw [← hk]; exact hw5
    have hb6 : Below w5.heap.size w5 w6 := by rw [← hk]; exact Below.refl _ _
    replace r1 := r1.below hb6 (Nat.le_refl _)
    replace r2 := r2.below hb6 (Nat.le_refl _)
    clear hk
    go_wp2_with fail
    refine (SameLimbs_d w6 r1.rd r2.rd rfl r1.lt r2.lt).mono ?_
    rintro e w7 ⟨rfl, hb7⟩
    have hw7 := hw6.trans (hb7.mono hw6.size)
    go_wp2_with (go_at_call 15; refine (num_c _ _).mono ?_; rintro e w' ⟨rfl, rfl⟩)
    refine (SameLimbs_d w7 (Rd.nil w7 (fun _ => False) none) (Rd.nil w7 (fun _ => False) none) rfl (by omega) (by omega)).mono ?_
    rintro e w8 ⟨rfl, hb8⟩
    have hw8 := hw7.trans (hb8.mono hw7.size)
    go_wp2_with (go_at_call 15; refine (num_c _ _).mono ?_; rintro e w' ⟨rfl, rfl⟩)
    refine (alive_c w8).mono ?_
    rintro e w9 ⟨rfl, hb9⟩
    go_wp2
    go_ret
    exact ⟨rfl, hw8.trans (hb9.mono hw8.size)⟩
  · obtain ⟨k, rfl⟩ : ∃ k : Nat, z = (k : Int) := ⟨z.toNat, by omega⟩
    have hk : k ≤ 2400 := by omega
    clear hz
    go_wp2_with fail
    refine (Pow_ok k w4 hk).mono ?_
    rintro e w5 ⟨A5, n5, c5, ps, rfl, r5, cp, vp, hb5⟩
    have hw5 := hw4.trans (hb5.mono hw4.size)
    replace r1 := r1.below hb5 (Nat.le_refl _)
    replace r2 := r2.below hb5 (Nat.le_refl _)
    have VP := Lib.hid vp
    clear vp
    go_wp2_with fail
    refine (rPow_ok k w5 hk).mono ?_
    rintro e w6 ⟨A6, n6, c6, qs, rfl, r6, cq, vq, hb6⟩
    have hw6 := hw5.trans (hb6.mono hw5.size)
    replace r1 := r1.below hb6 (Nat.le_refl _)
    replace r2 := r2.below hb6 (Nat.le_refl _)
    replace r5 := r5.below hb6 (Nat.le_refl _)
    have HPQ : Hid (ps = qs) := cp.inj cq (VP.out.trans vq.symm)
    clear vq VP
    go_wp2_with fail
    refine (SameLimbs_d w6 r1.rd r2.rd rfl r1.lt r2.lt).mono ?_
    rintro e w7 ⟨rfl, hb7⟩
    have hw7 := hw6.trans (hb7.mono hw6.size)
    replace r5 := r5.below hb7 (Nat.le_refl _)
    replace r6 := r6.below hb7 (Nat.le_refl _)
    go_wp2_with (go_at_call 15; refine (num_c _ _).mono ?_; rintro e w' ⟨rfl, rfl⟩)
    refine (SameLimbs_d w7 r5.rd r6.rd HPQ.out r5.lt r6.lt).mono ?_
    rintro e w8 ⟨rfl, hb8⟩
    have hw8 := hw7.trans (hb8.mono hw7.size)
    go_wp2_with (go_at_call 15; refine (num_c _ _).mono ?_; rintro e w' ⟨rfl, rfl⟩)
    refine (alive_c w8).mono ?_
    rintro e w9 ⟨rfl, hb9⟩
    go_wp2
    go_ret
    exact ⟨rfl, hw8.trans (hb9.mono hw8.size)⟩
end Go.Proofs.Ytdlphdbojkdfoaa
