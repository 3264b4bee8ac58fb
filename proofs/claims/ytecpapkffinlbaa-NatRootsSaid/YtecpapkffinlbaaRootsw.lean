/-
  The walk of the law NatRoots: it returns true, whatever the slice reads as.
-/
import Derived.Test.YtecpapkffinlbaaRoot
import Derived.Test.YtecpapkffinlbaaAlive
import Derived.Test.YtecpapkffinlbaaSamel
set_option linter.unusedVariables false
set_option linter.unusedSimpArgs false
namespace Go.Proofs.Ytecpapkffinlbaa
open Go.RowKit

/-- What the law asks, in numbers. -/
theorem roots_math {xs rs : List Nat} (cx : Can xs) (lx : xs.length ≤ 250) (hr : Can rs) (h1 : val rs * val rs ≤ val xs) (h2 : val xs < (val rs + 1) * (val rs + 1)) :
    binE rs (lim 1) (val rs + val (lim 1)) = 0 ∧ binE rs rs (val rs * val rs) = 0 ∧
    binE (binZ rs (lim 1) (val rs + val (lim 1))) (binZ rs (lim 1) (val rs + val (lim 1))) (val (binZ rs (lim 1) (val rs + val (lim 1))) * val (binZ rs (lim 1) (val rs + val (lim 1)))) = 0 ∧
    chk2 (binZ rs rs (val rs * val rs)) xs = 0 ∧ cmp (binZ rs rs (val rs * val rs)) xs ≤ 0 ∧
    chk2 (binZ (binZ rs (lim 1) (val rs + val (lim 1))) (binZ rs (lim 1) (val rs + val (lim 1))) (val (binZ rs (lim 1) (val rs + val (lim 1))) * val (binZ rs (lim 1) (val rs + val (lim 1))))) xs = 0 ∧
    0 < cmp (binZ (binZ rs (lim 1) (val rs + val (lim 1))) (binZ rs (lim 1) (val rs + val (lim 1))) (val (binZ rs (lim 1) (val rs + val (lim 1))) * val (binZ rs (lim 1) (val rs + val (lim 1))))) xs := by
  obtain ⟨r, hre⟩ : ∃ r, r = val rs := ⟨_, rfl⟩
  rw [← hre] at h1 h2
  have hxb : val xs < bp 250 := Nat.lt_of_lt_of_le (val_lt cx.1) (bp_mono lx)
  have h251 : bp 251 = 4294967296 * bp 250 := bp_succ 250
  have h256 : bp 251 ≤ bp 256 := bp_mono (by omega)
  have hrr : r ≤ r * r := Nat.le_mul_self r
  have hsq : (r + 1) * (r + 1) = r * r + r + r + 1 := by rw [Nat.mul_add, Nat.add_mul]; omega
  have lr : rs.length ≤ 256 := hr.len_le (by rw [← hre]; omega)
  have hb0 : 0 < bp 250 := bp_pos _
  have c1 := lim_can 1
  have l1 : (lim 1).length ≤ 256 := lim_len (by omega)
  rw [← hre, lim_val]
  have e1 : binE rs (lim 1) (r + 1) = 0 := binE_ok hr c1 lr l1 (by omega)
  obtain ⟨_, _, b1, z1⟩ := binE_zero hr.1 c1.1 e1
  have e2 : binE rs rs (r * r) = 0 := binE_ok hr hr lr lr (by omega)
  obtain ⟨_, _, b2, z2⟩ := binE_zero hr.1 hr.1 e2
  rw [z1, z2, lim_val]
  have cn := lim_can (r + 1)
  have ln := lim_len b1
  have e3 : binE (lim (r + 1)) (lim (r + 1)) ((r + 1) * (r + 1)) = 0 := binE_ok cn cn ln ln (by omega)
  obtain ⟨_, _, b3, z3⟩ := binE_zero cn.1 cn.1 e3
  rw [z3]
  refine ⟨e1, e2, e3, chk2_ok (lim_can _) cx (lim_len b2) (by omega), ?_, chk2_ok (lim_can _) cx (lim_len b3) (by omega), ?_⟩
  · rw [cmp_val (lim_can _) cx, lim_val]
    by_cases h : r * r < val xs
    · rw [if_pos h]; omega
    · rw [if_neg h, if_neg (by omega)]; exact Int.le_refl _
  · rw [cmp_val (lim_can _) cx, lim_val, if_neg (by omega), if_pos h2]; omega

set_option maxRecDepth 100000 in
set_option maxHeartbeats 1000000 in
theorem NatRoots_c {S1 : Nat → Prop} {n c : Nat} {A : Option Addr} {xs : List Nat} (w : World) (ha : Rd w S1 A n xs) (hS1 : ∀ b, S1 b → b < w.heap.size) (hn : n ≤ 9223372036854775807) :
    Calls Try.prog 4 #[.slice A n c] w fun e w' => e = .returned (.bool true) ∧ Below w.heap.size w w' := by
  have up : ∀ {W : World} {S : Nat → Prop}, Below w.heap.size w W → (∀ b, S b → b < w.heap.size) → ∀ b, S b → b < W.heap.size := fun hW hS b h => by have := hS b h; have := hW.size; omega
  go_enter Try.func4, Try.ntmps4
  go_wp2_with fail
  refine (alive_c w).mono ?_
  rintro e w1 ⟨rfl, hb1⟩
  go_wp2_with fail
  refine (Root_c w1 (ha.below hb1 hS1) (up hb1 hS1) hn).mono ?_
  rintro e w2 ⟨A1, n1, c1, rs, rfl, hr1, hb2, hbad, hok⟩
  have hbw2 : Below w.heap.size w w2 := hb1.trans (hb2.mono hb1.size)
  by_cases hE : chk xs = 0
  · obtain ⟨hr, hv1, hv2⟩ := hok hE
    have cx := (can_of_chk ha.l32 hE).1
    have HE := Lib.hid hE
    clear hbad hok hE
    rw [HE.out]
    by_cases hl : 250 < n
    · go_wp2_with (go_at_call 7; refine (num_c _ _).mono ?_; rintro e w' ⟨rfl, rfl⟩)
      go_ret
      exact ⟨rfl, hbw2⟩
    · have hl2 : n ≤ 250 := by omega
      obtain ⟨m1, m2, m3, m4, m5, m6, m7⟩ := roots_math cx (by rw [ha.len]; exact hl2) hr hv1 hv2
      have M1 := Lib.hid m1
      have M2 := Lib.hid m2
      have M3 := Lib.hid m3
      have M4 := Lib.hid m4
      have M5 := Lib.hid m5
      have M6 := Lib.hid m6
      have M7 := Lib.hid m7
      clear m1 m2 m3 m4 m5 m6 m7 hv1 hv2 hl
      go_wp2_with (go_at_call 7; refine (num_c _ _).mono ?_; rintro e w' ⟨rfl, rfl⟩)
      refine (From_c 1 w2 (by omega)).mono ?_
      rintro e w3 ⟨A2, n2, c2, os, rfl, hr2, hco, hvo, hb3⟩
      have hos : os = lim 1 := by rw [eq_lim hco, hvo]
      subst hos
      have hbw3 : Below w.heap.size w w3 := hbw2.trans (hb3.mono hbw2.size)
      have hr1a := hr1.below hb3 (Nat.le_refl _)
      clear hco hvo
      go_wp2_with fail
      refine (Add_c w3 hr1a.rd hr2.rd (fun b h => h.2) (fun b h => h.2) hr1a.lt hr2.lt).mono ?_
      rintro e w4 ⟨A3, n3, c3, rfl, hr3, hb4⟩
      rw [M1.out]
      have hbw4 : Below w.heap.size w w4 := hbw3.trans (hb4.mono hbw3.size)
      have hr1b := hr1a.below hb4 (Nat.le_refl _)
      go_wp2_with fail
      refine (Mul_c w4 hr1b.rd hr1b.rd (fun b h => h.2) (fun b h => h.2) hr1b.lt hr1b.lt).mono ?_
      rintro e w5 ⟨A4, n4, c4, rfl, hr4, hb5⟩
      rw [M2.out]
      have hbw5 : Below w.heap.size w w5 := hbw4.trans (hb5.mono hbw4.size)
      have hr3b := hr3.below hb5 (Nat.le_refl _)
      go_wp2_with fail
      refine (Mul_c w5 hr3b.rd hr3b.rd (fun b h => h.2) (fun b h => h.2) hr3b.lt hr3b.lt).mono ?_
      rintro e w6 ⟨A5, n5, c5, rfl, hr5, hb6⟩
      rw [M3.out]
      have hbw6 : Below w.heap.size w w6 := hbw5.trans (hb6.mono hbw5.size)
      have hr4b := hr4.below hb6 (Nat.le_refl _)
      have ha6 := ha.below hbw6 hS1
      go_wp2_with fail
      refine (Compare_c w6 hr4b.rd ha6 hr4b.lt hn).mono ?_
      rintro e w7 ⟨rfl, k, hk⟩
      rw [if_pos M4.out, M4.out]
      have ha7 : Rd w7 S1 A n xs := by rw [hk]; exact ha6.drewN k
      have hr7 := hr5.drewN k
      rw [← hk] at hr7
      have hbw7 : Below w.heap.size w w7 := by rw [hk]; exact below_drewN hbw6 k
      clear hk
      go_wp2_with fail
      refine (Compare_c w7 hr7.rd ha7 hr7.lt hn).mono ?_
      rintro e w8 ⟨rfl, k2, hk2⟩
      rw [if_pos M6.out, M6.out]
      have hbw8 : Below w.heap.size w w8 := by rw [hk2]; exact below_drewN hbw7 k2
      clear hk2
      obtain ⟨z1, hz1⟩ : ∃ z, z = cmp (binZ rs rs (val rs * val rs)) xs := ⟨_, rfl⟩
      obtain ⟨z2, hz2⟩ : ∃ z, z = cmp (binZ (binZ rs (lim 1) (val rs + val (lim 1))) (binZ rs (lim 1) (val rs + val (lim 1))) (val (binZ rs (lim 1) (val rs + val (lim 1))) * val (binZ rs (lim 1) (val rs + val (lim 1))))) xs := ⟨_, rfl⟩
      have hz1p : z1 ≤ 0 := by rw [hz1]; exact M5.out
      have hz2p : 0 < z2 := by rw [hz2]; exact M7.out
      rw [← hz1, ← hz2]
      clear hz1 hz2
      go_wp2_with (go_at_call 7; refine (num_c _ _).mono ?_; rintro e w' ⟨rfl, rfl⟩)
      go_ret
      exact ⟨rfl, hbw8⟩
  · have hn1 := hbad hE
    subst hn1
    have hbn : (((chk xs : Nat) : Int) != 0) = true := by rw [bne_iff_ne]; omega
    have hbn2 : (((chk xs : Nat) : Int) == 0) = false := by rw [beq_eq_false_iff_ne]; omega
    clear hbad hok hE
    go_wp2_with (go_at_call 7; refine (num_c _ _).mono ?_; rintro e w' ⟨rfl, rfl⟩)
    go_ret
    exact ⟨rfl, hbw2⟩
end Go.Proofs.Ytecpapkffinlbaa
