/-
  The walk of the law NatParts: it returns true, whatever the two slices read as.
-/
import Derived.Test.YtecpapkffinlbaaDiv
import Derived.Test.YtecpapkffinlbaaAlive
import Derived.Test.YtecpapkffinlbaaSamel
set_option linter.unusedVariables false
set_option linter.unusedSimpArgs false
namespace Go.Proofs.Ytecpapkffinlbaa
open Go.RowKit

theorem divE_zero {xs ys : List Nat} (hx : L32 xs) (hy : L32 ys) (h : divE xs ys = 0) : (Can xs ∧ xs.length ≤ 256) ∧ Can ys ∧ ys.length ≤ 256 := by
  unfold divE at h
  by_cases h1 : chk2 xs ys = 0
  · exact can_of_chk2 hx hy h1
  · rw [if_neg h1] at h; exact absurd h h1
/-- What the law asks, in numbers. -/
theorem parts_math {xs ys qs rs : List Nat} (hx : L32 xs) (hy : L32 ys) (h : divE xs ys = 0) (hq : Can qs) (hr : Can rs) (hv : val xs = val qs * val ys + val rs) (hl : val rs < val ys) :
    binE qs ys (val qs * val ys) = 0 ∧ binE (binZ qs ys (val qs * val ys)) rs (val (binZ qs ys (val qs * val ys)) + val rs) = 0 ∧
    binZ (binZ qs ys (val qs * val ys)) rs (val (binZ qs ys (val qs * val ys)) + val rs) = xs ∧ chk2 rs ys = 0 ∧ cmp rs ys = -1 := by
  obtain ⟨⟨cx, lx⟩, cy, ly⟩ := divE_zero hx hy h
  have hxb : val xs < bp 256 := Nat.lt_of_lt_of_le (val_lt hx) (bp_mono lx)
  have hqx : val qs ≤ val qs * val ys := Nat.le_mul_of_pos_right _ (by omega)
  have lq : qs.length ≤ 256 := hq.len_le (by omega)
  have lr : rs.length ≤ 256 := hr.len_le (by omega)
  have e1 : binE qs ys (val qs * val ys) = 0 := binE_ok hq cy lq ly (by omega)
  obtain ⟨_, _, b1, z1⟩ := binE_zero hq.1 hy e1
  rw [z1, lim_val, ← hv]
  have e2 : binE (lim (val qs * val ys)) rs (val xs) = 0 := binE_ok (lim_can _) hr (lim_len b1) lr hxb
  obtain ⟨_, _, _, z2⟩ := binE_zero (lim_can _).1 hr.1 e2
  refine ⟨e1, e2, by rw [z2]; exact (eq_lim cx).symm, chk2_ok hr cy lr ly, ?_⟩
  rw [cmp_val hr cy, if_pos hl]

set_option maxRecDepth 100000 in
set_option maxHeartbeats 1000000 in
theorem NatParts_c {S1 S2 : Nat → Prop} {n m c d : Nat} {A B : Option Addr} {xs ys : List Nat} (w : World) (ha : Rd w S1 A n xs) (hb : Rd w S2 B m ys)
    (hS1 : ∀ b, S1 b → b < w.heap.size) (hS2 : ∀ b, S2 b → b < w.heap.size) (hn : n ≤ 9223372036854775807) (hm : m ≤ 9223372036854775807) :
    Calls Try.prog 3 #[.slice A n c, .slice B m d] w fun e w' => e = .returned (.bool true) ∧ Below w.heap.size w w' := by
  have up : ∀ {W : World} {S : Nat → Prop}, Below w.heap.size w W → (∀ b, S b → b < w.heap.size) → ∀ b, S b → b < W.heap.size := fun hW hS b h => by have := hS b h; have := hW.size; omega
  go_enter Try.func3, Try.ntmps3
  go_wp2_with fail
  refine (alive_c w).mono ?_
  rintro e w1 ⟨rfl, hb1⟩
  go_wp2_with fail
  refine (Div_c w1 (ha.below hb1 hS1) (hb.below hb1 hS2) (up hb1 hS1) (up hb1 hS2) hn hm).mono ?_
  rintro e w2 ⟨A1, n1, c1, qs, A2, n2, c2, rs, rfl, hr1, hr2, hbad, hok, hb2⟩
  have hbw2 : Below w.heap.size w w2 := hb1.trans (hb2.mono hb1.size)
  by_cases hE : divE xs ys = 0
  · obtain ⟨hq, hr, hv, hl⟩ := hok hE
    obtain ⟨m1, m2, m3, m4, m5⟩ := parts_math ha.l32 hb.l32 hE hq hr hv hl
    have hlen : n ≤ maxLen := by
      have := (divE_zero ha.l32 hb.l32 hE).1.2
      rw [ha.len] at this; unfold maxLen; omega
    have HE := Lib.hid hE
    have M1 := Lib.hid m1
    have M2 := Lib.hid m2
    have M3 := Lib.hid m3
    have M4 := Lib.hid m4
    have M5 := Lib.hid m5
    clear hbad hok hE m1 m2 m3 m4 m5 hv hl
    rw [HE.out]
    go_wp2_with (go_at_call 7; refine (num_c _ _).mono ?_; rintro e w' ⟨rfl, rfl⟩)
    refine (Mul_c w2 hr1.rd (hb.below hbw2 hS2) (fun b h => h.2) (up hbw2 hS2) hr1.lt hm).mono ?_
    rintro e w3 ⟨A3, n3, c3, rfl, hr3, hb3⟩
    rw [M1.out]
    have hbw3 : Below w.heap.size w w3 := hbw2.trans (hb3.mono hbw2.size)
    have hr2' := hr2.below hb3 (Nat.le_refl _)
    go_wp2_with fail
    refine (Add_c w3 hr3.rd hr2'.rd (fun b h => h.2) (fun b h => h.2) hr3.lt hr2'.lt).mono ?_
    rintro e w4 ⟨A4, n4, c4, rfl, hr4, hb4⟩
    rw [M2.out]
    have hbw4 : Below w.heap.size w w4 := hbw3.trans (hb4.mono hbw3.size)
    have hr2'' := hr2'.below hb4 (Nat.le_refl _)
    go_wp2_with fail
    refine (Compare_c w4 hr2''.rd (hb.below hbw4 hS2) hr2''.lt hm).mono ?_
    rintro e w5 ⟨rfl, k, hk⟩
    rw [if_pos M4.out, M4.out, M5.out]
    have ha5 : Rd w5 S1 A n xs := by rw [hk]; exact (ha.below hbw4 hS1).drewN k
    have hr5 : Res w5 w3.heap.size A4 n4 c4 xs := by
      have := hr4
      rw [M3.out] at this
      rw [hk]; exact this.drewN k
    have hbw5 : Below w.heap.size w w5 := by rw [hk]; exact below_drewN hbw4 k
    clear hk hr4
    go_wp2_with (first
      | (go_at_call 7; refine (num_c _ _).mono ?_; rintro e w' ⟨rfl, rfl⟩)
      | (go_at_call 11; refine (SameLimbs_eq w5 hr5.rd ha5 rfl hr5.le hlen).mono ?_; rintro e w8 ⟨rfl, k1, rfl⟩))
    go_ret
    exact ⟨rfl, below_drewN hbw5 _⟩
  · obtain ⟨rfl, rfl⟩ := hbad hE
    have hbn : (((divE xs ys : Nat) : Int) != 0) = true := by rw [bne_iff_ne]; omega
    clear hbad hok hE
    go_wp2_with (go_at_call 7; refine (num_c _ _).mono ?_; rintro e w' ⟨rfl, rfl⟩)
    go_ret
    exact ⟨rfl, hbw2⟩
end Go.Proofs.Ytecpapkffinlbaa
