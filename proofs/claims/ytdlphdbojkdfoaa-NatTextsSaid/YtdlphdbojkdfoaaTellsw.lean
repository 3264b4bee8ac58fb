/-
  The walk of the law NatTells: it returns true, whatever the two slices and the number are.
-/
import Derived.Test.YtdlphdbojkdfoaaOwnw
import Derived.Test.YtdlphdbojkdfoaaAlive
import Derived.Test.YtdlphdbojkdfoaaSamel
set_option linter.unusedVariables false
set_option linter.unusedSimpArgs false
namespace Go.Proofs.Ytdlphdbojkdfoaa
open Go.RowKit

def cmpZ (xs ys : List Nat) : Int := if chk2 xs ys = 0 then cmp xs ys else 0
section
variable {S S' : Nat → Prop} {n m c d : Nat} {A B : Option Addr} {xs ys : List Nat}
theorem Compare_d (w : World) (ha : Rd w S A n xs) (hb : Rd w S' B m ys) (hn : n ≤ 9223372036854775807) (hm : m ≤ 9223372036854775807) :
    Calls Try.prog 7 #[.slice A n c, .slice B m d] w fun e w' => e = .returned (.tuple #[.int .i64 (cmpZ xs ys), .int .i64 (chk2 xs ys : Int)]) ∧ Below w.heap.size w w' := by
  refine (Compare_c w ha hb hn hm).mono ?_
  rintro e w' ⟨rfl, k, rfl⟩
  exact ⟨rfl, below_drewN (Below.refl _ _) k⟩
theorem rCompare_d (w : World) (ha : Rd w S A n xs) (hb : Rd w S' B m ys) (hS : ∀ b, S b → b < w.heap.size) (hS' : ∀ b, S' b → b < w.heap.size) (hn : n ≤ 9223372036854775807) (hm : m ≤ 9223372036854775807) :
    Calls Try.prog 8 #[.slice A n c, .slice B m d] w fun e w' => e = .returned (.tuple #[.int .i64 (cmpZ xs ys), .int .i64 (chk2 xs ys : Int)]) ∧ Below w.heap.size w w' :=
  rCompare_c w ha hb hS hS' hn hm
theorem SameLimbs_d (w : World) (ha : Rd w S A n xs) (hb : Rd w S' B m ys) (h : xs = ys) (hn : n ≤ 9223372036854775807) (hm : m ≤ 9223372036854775807) :
    Calls Try.prog 16 #[.slice A n c, .slice B m d] w fun e w' => e = .returned (.bool true) ∧ Below w.heap.size w w' := by
  refine (SameLimbs_c w ha hb hn hm).mono ?_
  rintro e w' ⟨rfl, k, rfl⟩
  rw [decide_eq_true h]
  exact ⟨rfl, below_drewN (Below.refl _ _) k⟩
end

set_option maxRecDepth 100000 in
set_option maxHeartbeats 2000000 in
theorem NatTells_c {S1 S2 : Nat → Prop} {n m c d : Nat} {A B : Option Addr} {xs ys : List Nat} (x : Nat) (w : World) (ha : Rd w S1 A n xs) (hb : Rd w S2 B m ys)
    (hS1 : ∀ b, S1 b → b < w.heap.size) (hS2 : ∀ b, S2 b → b < w.heap.size) (hn : n ≤ 35184372088832) (hm : m ≤ 35184372088832) (hx : x ≤ 18446744073709551615) :
    Calls Try.prog 3 #[.slice A n c, .slice B m d, .int .u64 (x : Int)] w fun e w' => e = .returned (.bool true) ∧ Below w.heap.size w w' := by
  have up : ∀ {W : World} {S : Nat → Prop}, Below w.heap.size w W → (∀ b, S b → b < w.heap.size) → ∀ b, S b → b < W.heap.size := fun hW hS b h => by have := hS b h; have := hW.size; omega
  have HX := Lib.hid hx
  clear hx
  go_enter Try.func3, Try.ntmps3
  go_wp2_with fail
  refine (CopyLimbs_c w ha hn).mono ?_
  rintro e w1 ⟨A1, c1, rfl, r1, hb1⟩
  have hw1 := hb1
  go_wp2_with fail
  refine (CopyLimbs_c w1 (hb.below hw1 hS2) hm).mono ?_
  rintro e w2 ⟨A2, c2, rfl, r2, hb2⟩
  replace r1 := r1.below hb2 (Nat.le_refl _)
  have hw2 := hw1.trans (hb2.mono hw1.size)
  go_wp2_with fail
  refine (Compare_d w2 r1.rd r2.rd r1.lt r2.lt).mono ?_
  rintro e w3 ⟨rfl, hb3⟩
  replace r1 := r1.below hb3 (Nat.le_refl _)
  replace r2 := r2.below hb3 (Nat.le_refl _)
  have hw3 := hw2.trans (hb3.mono hw2.size)
  go_wp2_with fail
  refine (rCompare_d w3 (ha.below hw3 hS1) (hb.below hw3 hS2) (up hw3 hS1) (up hw3 hS2) (by omega) (by omega)).mono ?_
  rintro e w4 ⟨rfl, hb4⟩
  replace r1 := r1.below hb4 (Nat.le_refl _)
  replace r2 := r2.below hb4 (Nat.le_refl _)
  have hw4 := hw3.trans (hb4.mono hw3.size)
  go_wp2_with fail
  refine (Add_c w4 r1.rd r2.rd (fun b h => h.2) (fun b h => h.2) r1.lt r2.lt).mono ?_
  rintro e w5 ⟨A3, n3, c3, rfl, r3, hb5⟩
  replace r1 := r1.below hb5 (Nat.le_refl _)
  replace r2 := r2.below hb5 (Nat.le_refl _)
  have hw5 := hw4.trans (hb5.mono hw4.size)
  go_wp2_with fail
  refine (rAdd_c w5 (ha.below hw5 hS1) (hb.below hw5 hS2) (up hw5 hS1) (up hw5 hS2) (by omega) (by omega)).mono ?_
  rintro e w6 ⟨A4, n4, c4, rfl, r4, hb6⟩
  replace r1 := r1.below hb6 (Nat.le_refl _)
  replace r2 := r2.below hb6 (Nat.le_refl _)
  replace r3 := r3.below hb6 (Nat.le_refl _)
  have hw6 := hw5.trans (hb6.mono hw5.size)
  go_wp2_with fail
  refine (Sub_c w6 r1.rd r2.rd (fun b h => h.2) (fun b h => h.2) r1.lt r2.lt).mono ?_
  rintro e w7 ⟨A5, n5, c5, rfl, r5, hb7⟩
  replace r1 := r1.below hb7 (Nat.le_refl _)
  replace r2 := r2.below hb7 (Nat.le_refl _)
  replace r3 := r3.below hb7 (Nat.le_refl _)
  replace r4 := r4.below hb7 (Nat.le_refl _)
  have hw7 := hw6.trans (hb7.mono hw6.size)
  go_wp2_with fail
  refine (rSub_c w7 (ha.below hw7 hS1) (hb.below hw7 hS2) (up hw7 hS1) (up hw7 hS2) (by omega) (by omega)).mono ?_
  rintro e w8 ⟨A6, n6, c6, rfl, r6, hb8⟩
  replace r1 := r1.below hb8 (Nat.le_refl _)
  replace r2 := r2.below hb8 (Nat.le_refl _)
  replace r3 := r3.below hb8 (Nat.le_refl _)
  replace r4 := r4.below hb8 (Nat.le_refl _)
  replace r5 := r5.below hb8 (Nat.le_refl _)
  have hw8 := hw7.trans (hb8.mono hw7.size)
  go_wp2_with fail
  refine (Mul_c w8 r1.rd r2.rd (fun b h => h.2) (fun b h => h.2) r1.lt r2.lt).mono ?_
  rintro e w9 ⟨A7, n7, c7, rfl, r7, hb9⟩
  replace r1 := r1.below hb9 (Nat.le_refl _)
  replace r2 := r2.below hb9 (Nat.le_refl _)
  replace r3 := r3.below hb9 (Nat.le_refl _)
  replace r4 := r4.below hb9 (Nat.le_refl _)
  replace r5 := r5.below hb9 (Nat.le_refl _)
  replace r6 := r6.below hb9 (Nat.le_refl _)
  have hw9 := hw8.trans (hb9.mono hw8.size)
  go_wp2_with fail
  refine (rMul_c w9 (ha.below hw9 hS1) (hb.below hw9 hS2) (up hw9 hS1) (up hw9 hS2) (by omega) (by omega)).mono ?_
  rintro e w10 ⟨A8, n8, c8, rfl, r8, hb10⟩
  replace r1 := r1.below hb10 (Nat.le_refl _)
  replace r2 := r2.below hb10 (Nat.le_refl _)
  replace r3 := r3.below hb10 (Nat.le_refl _)
  replace r4 := r4.below hb10 (Nat.le_refl _)
  replace r5 := r5.below hb10 (Nat.le_refl _)
  replace r6 := r6.below hb10 (Nat.le_refl _)
  replace r7 := r7.below hb10 (Nat.le_refl _)
  have hw10 := hw9.trans (hb10.mono hw9.size)
  go_wp2_with (go_at_call 15; refine (num_c _ _).mono ?_; rintro e w' ⟨rfl, rfl⟩)
  refine (SameLimbs_d w10 r3.rd r4.rd rfl r3.lt r4.lt).mono ?_
  rintro e w11 ⟨rfl, hb11⟩
  replace r1 := r1.below hb11 (Nat.le_refl _)
  replace r2 := r2.below hb11 (Nat.le_refl _)
  replace r3 := r3.below hb11 (Nat.le_refl _)
  replace r4 := r4.below hb11 (Nat.le_refl _)
  replace r5 := r5.below hb11 (Nat.le_refl _)
  replace r6 := r6.below hb11 (Nat.le_refl _)
  replace r7 := r7.below hb11 (Nat.le_refl _)
  replace r8 := r8.below hb11 (Nat.le_refl _)
  have hw11 := hw10.trans (hb11.mono hw10.size)
  go_wp2_with (go_at_call 15; refine (num_c _ _).mono ?_; rintro e w' ⟨rfl, rfl⟩)
  refine (SameLimbs_d w11 r5.rd r6.rd rfl r5.lt r6.lt).mono ?_
  rintro e w12 ⟨rfl, hb12⟩
  replace r1 := r1.below hb12 (Nat.le_refl _)
  replace r2 := r2.below hb12 (Nat.le_refl _)
  replace r5 := r5.below hb12 (Nat.le_refl _)
  replace r6 := r6.below hb12 (Nat.le_refl _)
  replace r7 := r7.below hb12 (Nat.le_refl _)
  replace r8 := r8.below hb12 (Nat.le_refl _)
  have hw12 := hw11.trans (hb12.mono hw11.size)
  go_wp2_with (go_at_call 15; refine (num_c _ _).mono ?_; rintro e w' ⟨rfl, rfl⟩)
  refine (SameLimbs_d w12 r7.rd r8.rd rfl r7.lt r8.lt).mono ?_
  rintro e w13 ⟨rfl, hb13⟩
  replace r1 := r1.below hb13 (Nat.le_refl _)
  replace r2 := r2.below hb13 (Nat.le_refl _)
  replace r7 := r7.below hb13 (Nat.le_refl _)
  replace r8 := r8.below hb13 (Nat.le_refl _)
  have hw13 := hw12.trans (hb13.mono hw12.size)
  clear r3 r4 r5 r6 r7 r8
  go_wp2_with (go_at_call 15; refine (num_c _ _).mono ?_; rintro e w' ⟨rfl, rfl⟩)
  refine (Check_c w13 r1.rd r1.lt).mono ?_
  rintro e w' ⟨rfl, rfl⟩
  go_wp2_with (go_at_call 15; refine (num_c _ _).mono ?_; rintro e w' ⟨rfl, rfl⟩)
  refine (rCheck_c w13 (ha.below hw13 hS1) (by omega)).mono ?_
  rintro e w' ⟨rfl, rfl⟩
  go_wp2_with fail
  refine (From_c x w13 (Nat.lt_succ_of_le HX.out)).mono ?_
  rintro e w14 ⟨A9, n9, c9, zs, rfl, r9, hcan, hval, hb14⟩
  replace r1 := r1.below hb14 (Nat.le_refl _)
  replace r2 := r2.below hb14 (Nat.le_refl _)
  have hw14 := hw13.trans (hb14.mono hw13.size)
  have HZ : Hid (zs = lim x) := (eq_lim hcan).trans (congrArg lim hval)
  clear hcan hval
  go_wp2_with fail
  refine (rFrom_c x w14 (Nat.lt_succ_of_le HX.out)).mono ?_
  rintro e w15 ⟨A10, n10, c10, rfl, r10, _, hb15⟩
  replace r1 := r1.below hb15 (Nat.le_refl _)
  replace r2 := r2.below hb15 (Nat.le_refl _)
  replace r9 := r9.below hb15 (Nat.le_refl _)
  have hw15 := hw14.trans (hb15.mono hw14.size)
  go_wp2_with fail
  refine (SameLimbs_d w15 r9.rd r10.rd HZ.out r9.lt r10.lt).mono ?_
  rintro e w16 ⟨rfl, hb16⟩
  replace r1 := r1.below hb16 (Nat.le_refl _)
  replace r2 := r2.below hb16 (Nat.le_refl _)
  replace r9 := r9.below hb16 (Nat.le_refl _)
  replace r10 := r10.below hb16 (Nat.le_refl _)
  have hw16 := hw15.trans (hb16.mono hw15.size)
  go_wp2_with fail
  refine (SameLimbs_d w16 r1.rd (ha.below hw16 hS1) rfl r1.lt (by omega)).mono ?_
  rintro e w17 ⟨rfl, hb17⟩
  replace r1 := r1.below hb17 (Nat.le_refl _)
  replace r2 := r2.below hb17 (Nat.le_refl _)
  replace r9 := r9.below hb17 (Nat.le_refl _)
  replace r10 := r10.below hb17 (Nat.le_refl _)
  have hw17 := hw16.trans (hb17.mono hw16.size)
  go_wp2_with fail
  refine (SameLimbs_d w17 r2.rd (hb.below hw17 hS2) rfl r2.lt (by omega)).mono ?_
  rintro e w18 ⟨rfl, hb18⟩
  replace r1 := r1.below hb18 (Nat.le_refl _)
  replace r2 := r2.below hb18 (Nat.le_refl _)
  replace r9 := r9.below hb18 (Nat.le_refl _)
  replace r10 := r10.below hb18 (Nat.le_refl _)
  have hw18 := hw17.trans (hb18.mono hw17.size)
  go_wp2_with fail
  refine (alive_c w18).mono ?_
  rintro e w19 ⟨rfl, hb19⟩
  replace r1 := r1.below hb19 (Nat.le_refl _)
  replace r2 := r2.below hb19 (Nat.le_refl _)
  replace r9 := r9.below hb19 (Nat.le_refl _)
  replace r10 := r10.below hb19 (Nat.le_refl _)
  have hw19 := hw18.trans (hb19.mono hw18.size)
  go_wp2
  go_ret
  exact ⟨rfl, hw19⟩
end Go.Proofs.Ytdlphdbojkdfoaa
