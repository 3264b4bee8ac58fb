/-
  The walk of the law NatLaws: it returns true, whatever the three slices read as.
-/
import Derived.Test.YtgdnchfacnjknaaApi
set_option linter.unusedVariables false
set_option linter.unusedSimpArgs false
namespace Go.Proofs.Ytgdnchfacnjknaa
open Go.RowKit

theorem chk2_ok {xs ys : List Nat} (hx : Can xs) (hy : Can ys) (h1 : xs.length ≤ 256) (h2 : ys.length ≤ 256) : chk2 xs ys = 0 := by
  unfold chk2
  rw [if_pos (chk_can hx h1), chk_can hy h2]
theorem binE_ok {xs ys : List Nat} {v : Nat} (hx : Can xs) (hy : Can ys) (h1 : xs.length ≤ 256) (h2 : ys.length ≤ 256) (hv : v < bp 256) : binE xs ys v = 0 := by
  unfold binE
  rw [if_pos (chk2_ok hx hy h1 h2), if_neg (by omega)]
theorem binE_zero {xs ys : List Nat} {v : Nat} (hx : L32 xs) (hy : L32 ys) (h : binE xs ys v = 0) : (Can xs ∧ xs.length ≤ 256) ∧ (Can ys ∧ ys.length ≤ 256) ∧ v < bp 256 ∧ binZ xs ys v = lim v := by
  have hz : binZ xs ys v = lim v := if_pos h
  unfold binE at h
  by_cases h0 : chk2 xs ys = 0
  · rw [if_pos h0] at h
    obtain ⟨hx2, hy2⟩ := can_of_chk2 hx hy h0
    refine ⟨hx2, hy2, ?_, hz⟩
    rcases Nat.lt_or_ge v (bp 256) with h1 | h1
    · exact h1
    · rw [if_pos h1] at h; omega
  · rw [if_neg h0] at h; exact absurd h h0
theorem lim_len {v : Nat} (h : v < bp 256) : (lim v).length ≤ 256 := by
  rcases Nat.lt_or_ge 256 (lim v).length with h1 | h1
  · have := (long_iff (lim_can v)).1 h1
    rw [lim_val] at this
    omega
  · exact h1

/-- What the law asks, in numbers. -/
theorem laws_math {xs ys us : List Nat} (hx : L32 xs) (hy : L32 ys) (hu : L32 us) (h1 : binE xs ys (val xs + val ys) = 0) (h2 : binE (binZ xs ys (val xs + val ys)) us (val (binZ xs ys (val xs + val ys)) * val us) = 0) :
    binE ys xs (val ys + val xs) = 0 ∧ binE xs us (val xs * val us) = 0 ∧ binE us ys (val us * val ys) = 0 ∧
    binE (binZ xs us (val xs * val us)) (binZ us ys (val us * val ys)) (val (binZ xs us (val xs * val us)) + val (binZ us ys (val us * val ys))) = 0 ∧
    binZ xs ys (val xs + val ys) = binZ ys xs (val ys + val xs) ∧
    binZ (binZ xs ys (val xs + val ys)) us (val (binZ xs ys (val xs + val ys)) * val us) = binZ (binZ xs us (val xs * val us)) (binZ us ys (val us * val ys)) (val (binZ xs us (val xs * val us)) + val (binZ us ys (val us * val ys))) := by
  obtain ⟨⟨cx, lx⟩, ⟨cy, ly⟩, hs, hz⟩ := binE_zero hx hy h1
  rw [hz] at h2 ⊢
  rw [lim_val] at h2 ⊢
  obtain ⟨⟨cz, lz⟩, ⟨cu, lu⟩, hp, hz2⟩ := binE_zero (lim_can _).1 hu h2
  have hle1 : val xs * val us ≤ (val xs + val ys) * val us := Nat.mul_le_mul_right _ (by omega)
  have hle2 : val us * val ys ≤ (val xs + val ys) * val us := by rw [Nat.mul_comm]; exact Nat.mul_le_mul_right _ (by omega)
  have e1 : binE ys xs (val ys + val xs) = 0 := binE_ok cy cx ly lx (by omega)
  have e2 : binE xs us (val xs * val us) = 0 := binE_ok cx cu lx lu (by omega)
  have e3 : binE us ys (val us * val ys) = 0 := binE_ok cu cy lu ly (by omega)
  obtain ⟨_, _, b2, z2⟩ := binE_zero hx hu e2
  obtain ⟨_, _, b3, z3⟩ := binE_zero hu hy e3
  obtain ⟨_, _, b1, z1⟩ := binE_zero hy hx e1
  have hsum : val xs * val us + val us * val ys = (val xs + val ys) * val us := by rw [Nat.add_mul, Nat.mul_comm (val us) (val ys)]
  rw [z1, z2, z3, lim_val, lim_val, hsum, Nat.add_comm (val ys)]
  have e4 : binE (lim (val xs * val us)) (lim (val us * val ys)) ((val xs + val ys) * val us) = 0 := binE_ok (lim_can _) (lim_can _) (lim_len b2) (lim_len b3) hp
  obtain ⟨_, _, _, z4⟩ := binE_zero (lim_can _).1 (lim_can _).1 e4
  rw [Nat.add_comm (val ys)] at e1
  exact ⟨e1, e2, e3, e4, rfl, hz2.trans z4.symm⟩

theorem Res.zero_len {w : World} {base n c : Nat} {A : Option Addr} (h : Res w base A n c []) : n = 0 := h.len.symm

theorem SameLimbs_eq {S S' : Nat → Prop} {n m c d : Nat} {A B : Option Addr} {xs ys : List Nat} (w : World) (ha : Rd w S A n xs) (hb : Rd w S' B m ys) (h : xs = ys) (hn : n ≤ maxLen) (hm : m ≤ maxLen) :
    Calls Try.prog 20 #[.slice A n c, .slice B m d] w fun e w' => e = .returned (.bool true) ∧ ∃ k, w' = w.drewN k := by
  refine (SameLimbs_c (c := c) (d := d) w ha hb (by unfold maxLen at hn; omega) (by unfold maxLen at hm; omega)).mono ?_
  rintro e w' ⟨rfl, k, rfl⟩
  rw [decide_eq_true h]
  exact ⟨rfl, k, rfl⟩
theorem Res.lt {w : World} {base n c : Nat} {A : Option Addr} {zs : List Nat} (h : Res w base A n c zs) : n ≤ 9223372036854775807 := by
  have := h.n_le; unfold maxLen at this; omega
theorem Res.le {w : World} {base n c : Nat} {A : Option Addr} {zs : List Nat} (h : Res w base A n c zs) : n ≤ maxLen := by
  have := h.n_le; omega
theorem below_drewN {B : Nat} {a w : World} (h : Below B a w) (n : Nat) : Below B a (w.drewN n) := ⟨h.os, h.tape, h.output, h.size, h.block⟩

set_option maxRecDepth 100000 in
set_option maxHeartbeats 1000000 in
theorem NatLaws_c {S1 S2 S3 : Nat → Prop} {n m l c d e : Nat} {A B C : Option Addr} {xs ys us : List Nat} (w : World) (ha : Rd w S1 A n xs) (hb : Rd w S2 B m ys) (hc : Rd w S3 C l us)
    (hS1 : ∀ b, S1 b → b < w.heap.size) (hS2 : ∀ b, S2 b → b < w.heap.size) (hS3 : ∀ b, S3 b → b < w.heap.size) (hn : n ≤ 9223372036854775807) (hm : m ≤ 9223372036854775807) (hl : l ≤ 9223372036854775807) :
    Calls Try.prog 8 #[.slice A n c, .slice B m d, .slice C l e] w fun e w' => e = .returned (.bool true) ∧ Below w.heap.size w w' := by
  have up : ∀ {W : World} {S : Nat → Prop}, Below w.heap.size w W → (∀ b, S b → b < w.heap.size) → ∀ b, S b → b < W.heap.size := fun hW hS b h => by have := hS b h; have := hW.size; omega
  by_cases h1 : binE xs ys (val xs + val ys) = 0
  · by_cases h2 : binE (binZ xs ys (val xs + val ys)) us (val (binZ xs ys (val xs + val ys)) * val us) = 0
    · obtain ⟨m1, m2, m3, m4, m5, m6⟩ := laws_math ha.l32 hb.l32 hc.l32 h1 h2
      have M5 := Lib.hid m5
      have M6 := Lib.hid m6
      clear m5 m6
      go_enter Try.func8, Try.ntmps8
      go_wp2_with fail
      refine (alive_c w).mono ?_
      rintro e w1 ⟨rfl, hb1⟩
      go_wp2_with fail
      refine (Add_c w1 (ha.below hb1 hS1) (hb.below hb1 hS2) (up hb1 hS1) (up hb1 hS2) hn hm).mono ?_
      rintro e w2 ⟨A1, n1, c1, rfl, hr1, hb2⟩
      have hbw2 : Below w.heap.size w w2 := hb1.trans (hb2.mono hb1.size)
      go_wp2_with fail
      refine (Mul_c w2 hr1.rd (hc.below hbw2 hS3) (fun b h => h.2) (up hbw2 hS3) (by have := hr1.n_le; unfold maxLen at this; omega) hl).mono ?_
      rintro e w3 ⟨A2, n2, c2, rfl, hr2, hb3⟩
      have hbw3 : Below w.heap.size w w3 := hbw2.trans (hb3.mono hbw2.size)
      go_wp2_with (go_at_call 19; refine (num_c _ _).mono ?_; rintro e w' ⟨rfl, rfl⟩)
      refine (Add_c w3 (hb.below hbw3 hS2) (ha.below hbw3 hS1) (up hbw3 hS2) (up hbw3 hS1) hm hn).mono ?_
      rintro e w4 ⟨A3, n3, c3, rfl, hr3, hb4⟩
      have hbw4 : Below w.heap.size w w4 := hbw3.trans (hb4.mono hbw3.size)
      go_wp2_with fail
      refine (Mul_c w4 (ha.below hbw4 hS1) (hc.below hbw4 hS3) (up hbw4 hS1) (up hbw4 hS3) hn hl).mono ?_
      rintro e w5 ⟨A4, n4, c4, rfl, hr4, hb5⟩
      have hbw5 : Below w.heap.size w w5 := hbw4.trans (hb5.mono hbw4.size)
      go_wp2_with fail
      refine (Mul_c w5 (hc.below hbw5 hS3) (hb.below hbw5 hS2) (up hbw5 hS3) (up hbw5 hS2) hl hm).mono ?_
      rintro e w6 ⟨A5, n5, c5, rfl, hr5, hb6⟩
      have hbw6 : Below w.heap.size w w6 := hbw5.trans (hb6.mono hbw5.size)
      have hr4' := hr4.below hb6 (Nat.le_refl _)
      go_wp2_with fail
      refine (Add_c w6 hr4'.rd hr5.rd (fun b h => h.2) (fun b h => h.2) hr4.lt hr5.lt).mono ?_
      rintro e w7 ⟨A6, n6, c6, rfl, hr6, hb7⟩
      have hbw7 : Below w.heap.size w w7 := hbw6.trans (hb7.mono hbw6.size)
      have r1 : Res w7 w1.heap.size A1 n1 c1 (binZ xs ys (val xs + val ys)) := by
        have h23 := hr1.below hb3 (Nat.le_refl _)
        have s2 := hb3.size; have s3 := hb4.size; have s4 := hb5.size; have s5 := hb6.size
        exact (((h23.below hb4 (Nat.le_refl _)).below hb5 (Nat.le_refl _)).below hb6 (Nat.le_refl _)).below hb7 (Nat.le_refl _)
      have r2 := (((hr2.below hb4 (Nat.le_refl _)).below hb5 (Nat.le_refl _)).below hb6 (Nat.le_refl _)).below hb7 (Nat.le_refl _)
      have r3 := ((hr3.below hb5 (Nat.le_refl _)).below hb6 (Nat.le_refl _)).below hb7 (Nat.le_refl _)
      go_wp2_with (go_at_call 19; refine (num_c _ _).mono ?_; rintro e w' ⟨rfl, rfl⟩)
      refine (SameLimbs_eq w7 r1.rd r3.rd M5.out r1.le r3.le).mono ?_
      rintro e w8 ⟨rfl, k1, rfl⟩
      go_wp2_with fail
      refine (SameLimbs_eq _ (r2.rd.drewN k1) (hr6.rd.drewN k1) M6.out r2.le hr6.le).mono ?_
      rintro e w8 ⟨rfl, k2, rfl⟩
      go_wp2
      go_ret
      exact ⟨rfl, below_drewN hbw7 _⟩
    · have hz := binZ_err h2
      have hbn : (((binE (binZ xs ys (val xs + val ys)) us (val (binZ xs ys (val xs + val ys)) * val us) : Nat) : Int) != 0) = true := by rw [bne_iff_ne]; omega
      have HZ := Lib.hid hz
      clear h2 hz
      go_enter Try.func8, Try.ntmps8
      go_wp2_with fail
      refine (alive_c w).mono ?_
      rintro e w1 ⟨rfl, hb1⟩
      go_wp2_with fail
      refine (Add_c w1 (ha.below hb1 hS1) (hb.below hb1 hS2) (up hb1 hS1) (up hb1 hS2) hn hm).mono ?_
      rintro e w2 ⟨A1, n1, c1, rfl, hr1, hb2⟩
      have hbw2 : Below w.heap.size w w2 := hb1.trans (hb2.mono hb1.size)
      go_wp2_with fail
      refine (Mul_c w2 hr1.rd (hc.below hbw2 hS3) (fun b h => h.2) (up hbw2 hS3) hr1.lt hl).mono ?_
      rintro e w3 ⟨A2, n2, c2, rfl, hr2, hb3⟩
      have hbw3 : Below w.heap.size w w3 := hbw2.trans (hb3.mono hbw2.size)
      rw [HZ.out] at hr2
      obtain rfl := hr2.zero_len
      clear hr1 hr2
      by_cases hn1 : n1 = 0
      · subst hn1
        go_wp2_with (go_at_call 19; refine (num_c _ _).mono ?_; rintro e w' ⟨rfl, rfl⟩)
        go_ret
        exact ⟨rfl, hbw3⟩
      · have hn1b : ((n1 : Int) == 0) = false := by rw [beq_eq_false_iff_ne]; omega
        clear hn1
        go_wp2_with (go_at_call 19; refine (num_c _ _).mono ?_; rintro e w' ⟨rfl, rfl⟩)
        go_ret
        exact ⟨rfl, hbw3⟩
  · have hz := binZ_err h1
    have hbn : (((binE xs ys (val xs + val ys) : Nat) : Int) != 0) = true := by rw [bne_iff_ne]; omega
    have HZ := Lib.hid hz
    clear h1 hz
    go_enter Try.func8, Try.ntmps8
    go_wp2_with fail
    refine (alive_c w).mono ?_
    rintro e w1 ⟨rfl, hb1⟩
    go_wp2_with fail
    refine (Add_c w1 (ha.below hb1 hS1) (hb.below hb1 hS2) (up hb1 hS1) (up hb1 hS2) hn hm).mono ?_
    rintro e w2 ⟨A1, n1, c1, rfl, hr1, hb2⟩
    have hbw2 : Below w.heap.size w w2 := hb1.trans (hb2.mono hb1.size)
    go_wp2_with fail
    refine (Mul_c w2 hr1.rd (hc.below hbw2 hS3) (fun b h => h.2) (up hbw2 hS3) hr1.lt hl).mono ?_
    rintro e w3 ⟨A2, n2, c2, rfl, hr2, hb3⟩
    have hbw3 : Below w.heap.size w w3 := hbw2.trans (hb3.mono hbw2.size)
    rw [HZ.out] at hr1
    obtain rfl := hr1.zero_len
    clear hr1 hr2
    go_wp2_with (go_at_call 19; refine (num_c _ _).mono ?_; rintro e w' ⟨rfl, rfl⟩)
    go_ret
    exact ⟨rfl, hbw3⟩
end Go.Proofs.Ytgdnchfacnjknaa
