/-
  Contracts of the reference's Check and checks, of decimals.
-/
import Derived.Test.YtbbafggejnjjiaaGreatDoorDref
import Derived.Test.YtbbafggejnjjiaaGreatDoorDop
set_option linter.unusedVariables false
set_option linter.unusedSimpArgs false
namespace Go.Proofs.YtbbafggejnjjiaaGreatDoor
open Go.RowKit

theorem long_no {xs : List Nat} (h : Can xs) (hl : 40 < xs.length) : ¬ (dOf (val xs)).length ≤ 300 := by
  intro h1
  have h2 := dval_lt (dOf_can (val xs)).1
  rw [dOf_val] at h2
  have h3 : val xs < bp 40 := by
    obtain ⟨T, hT⟩ : ∃ T, T = 300 := ⟨_, rfl⟩
    rw [← hT] at h1
    have h6 : dp (dOf (val xs)).length ≤ dp T := Nat.pow_le_pow_right (by omega) h1
    refine lt_bp (m := 100) (p := T) ?_ (by omega) (by omega)
    exact Nat.lt_of_lt_of_le h2 h6
  have h4 := h.ge (by intro e; rw [e] at hl; simp at hl)
  have h5 : bp 40 ≤ bp (xs.length - 1) := by unfold bp; exact Nat.pow_le_pow_right (by omega) (by omega)
  omega

set_option maxRecDepth 100000 in
set_option maxHeartbeats 4000000 in
theorem RCheck_c {S : Nat → Prop} {n c : Nat} {A : Option Addr} {xs : List Nat} (neg : Bool) (exp : Int) (w : World) (ha : Rd w S A n xs) (hS : ∀ b, S b → b < w.heap.size) (hn : n ≤ 9223372036854775807) :
    Calls Tryz.prog 30 #[dv neg A n c exp] w fun e w' => e = .returned (.int .i64 (okE neg xs exp : Int)) ∧ Below w.heap.size w w' := by
  have hb0 : Below w.heap.size w (w.alloc (.cells #[.bool neg, .slice A n c, .int .i64 exp] 24)) := (Below.refl _ _).alloc (Nat.le_refl _) _
  have hck := rCheck_c (c := c) (w.alloc (.cells #[.bool neg, .slice A n c, .int .i64 exp] 24)) (ha.below hb0 hS) hn
  by_cases h0 : chk xs = 0
  · obtain ⟨hcx, hlx⟩ := can_of_chk ha.l32 h0
    have hlen := ha.len
    rw [h0] at hck
    by_cases h40 : 40 < n
    · have hE : okE neg xs exp = 9 := by
        unfold okE
        rw [if_neg]
        intro h
        exact long_no hcx (by omega) (okB_len h)
      rw [hE]
      have HCK := Lib.hid hck
      clear hck h0 hE hlen hcx hlx
      unfold dv
      go_enter Tryz.func30, Tryz.ntmps30
      go_wp2_with fail
      refine HCK.out.mono ?_
      rintro e w1 ⟨rfl, rfl⟩
      go_wp2
      go_ret
      exact ⟨rfl, hb0⟩
    · have hof := Of_c (c := c) neg exp (w.alloc (.cells #[.bool neg, .slice A n c, .int .i64 exp] 24)) (ha.below hb0 hS) (fun b h => by have := hS b h; simp; omega) (by omega)
      have hok : okB neg xs exp = (decide ((dOf (val xs)).length ≤ 300) && (if xs.length = 0 then (!neg && exp == 0) else (decide (nth (dOf (val xs)) 0 ≠ 0) && (decide (-1000 ≤ exp) && decide (exp ≤ 1000))))) := by
        unfold okB
        rw [decide_eq_true h0, Bool.true_and]
      have hz : xs.length = 0 ↔ (dOf (val xs)).length = 0 := by
        constructor
        · intro h
          rw [List.eq_nil_of_length_eq_zero h]; rfl
        · intro h
          have h1 := dOf_val (val xs)
          rw [List.eq_nil_of_length_eq_zero h] at h1
          have h2 := hcx.val_zero h1.symm
          rw [h2]; rfl
      obtain ⟨E, hE⟩ : ∃ E : Nat, E = okE neg xs exp := ⟨_, rfl⟩
      rw [← hE]
      have hEE : E = if (decide ((dOf (val xs)).length ≤ 300) && (if (dOf (val xs)).length = 0 then (!neg && exp == 0) else (decide (nth (dOf (val xs)) 0 ≠ 0) && (decide (-1000 ≤ exp) && decide (exp ≤ 1000))))) = true then 0 else 9 := by
        rw [hE]
        unfold okE
        rw [hok]
        simp only [hz]
      unfold dv at hof ⊢
      unfold nv at hof
      have HCK := Lib.hid hck
      have HOF := Lib.hid hof
      have HE := Lib.hid hEE
      clear hck hof h0 hok hz hE hEE hlen hcx hlx
      have m0 := World.alloc_heap_new w (.cells #[.bool neg, .slice A n c, .int .i64 exp] 24)
      have hsz : (w.alloc (.cells #[.bool neg, .slice A n c, .int .i64 exp] 24)).heap.size = w.heap.size + 1 := by simp
      have HM := Lib.hid m0
      clear m0
      go_enter Tryz.func30, Tryz.ntmps30
      go_wp2_with fail
      refine HCK.out.mono ?_
      rintro e w1 ⟨rfl, rfl⟩
      go_wp2_with fail
      refine HOF.out.mono ?_
      rintro e w2 ⟨A1, n1, c1, ds, rfl, hr1, hc1, hv1, hl1, hb1⟩
      have hds := eq_dOf hc1
      rw [hv1] at hds
      have hn1 := hr1.len
      have m1 := held hb1 (by omega) HM.out
      have hw2 := hb0.trans (hb1.mono (by omega))
      have m2 := heldA (.cells #[.bool neg, .slice A1 n1 c1, .int .i64 exp] 41) m1
      have m3 := World.alloc_heap_new w2 (.cells #[.bool neg, .slice A1 n1 c1, .int .i64 exp] 41)
      have hr2 : ResI (w2.alloc (.cells #[.bool neg, .slice A1 n1 c1, .int .i64 exp] 41)) _ A1 n1 c1 ds := hr1.below ((Below.refl w2.heap.size w2).alloc (Nat.le_refl _) _) (Nat.le_refl _)
      have hw3 := hw2.alloc hw2.size (.cells #[.bool neg, .slice A1 n1 c1, .int .i64 exp] 41)
      obtain ⟨p0, p1, p2⟩ := box3_of m2
      obtain ⟨q0, q1, q2⟩ := box3_of m3
      have HE2 := HE.out
      rw [← hds, hn1] at HE2
      have HE3 := Lib.hid HE2
      have HN1 := Lib.hid hn1
      clear hds hv1 HE2 HE HOF HCK HM m1 m2 m3
      by_cases hn0 : n1 = 0
      · subst hn0
        cases neg
        · by_cases he : exp = 0
          · have heb : (exp != 0) = false := by rw [he]; rfl
            have hE0 : E = 0 := by rw [HE3.out, he]; rfl
            subst hE0
            clear he
            go_wp2
            go_ret
            exact ⟨rfl, hw3⟩
          · have heb : (exp != 0) = true := by rw [bne_iff_ne]; exact he
            have heb2 : (exp == 0) = false := by rw [beq_eq_false_iff_ne]; exact he
            have hE0 : E = 9 := by rw [HE3.out, heb2]; rfl
            subst hE0
            clear he
            go_wp2
            go_ret
            exact ⟨rfl, hw3⟩
        · have hE0 : E = 9 := by rw [HE3.out]; rfl
          subst hE0
          go_wp2
          go_ret
          exact ⟨rfl, hw3⟩
      · have hnb : ((n1 : Int) == 0) = false := by rw [beq_eq_false_iff_ne]; omega
        have hn1p : 0 < n1 := by omega
        obtain ⟨b, off, hA, _, hcell⟩ := hr2.rd.cells hn1p
        subst hA
        have hc0 := hcell 0 hn1p
        rw [Nat.add_zero] at hc0
        have hE4 : E = if (decide (n1 ≤ 300) && (decide (nth ds 0 ≠ 0) && (decide (-1000 ≤ exp) && decide (exp ≤ 1000)))) = true then 0 else 9 := by
          rw [HE3.out, if_neg hn0]
        have HE4 := Lib.hid hE4
        clear hn0 hE4 hcell
        by_cases hd0 : nth ds 0 = 0
        · have hE0 : E = 9 := by rw [HE4.out, decide_eq_false (show ¬ nth ds 0 ≠ 0 from fun h => h hd0)]; simp
          subst hE0
          rw [hd0] at hc0
          clear hd0
          go_wp2
          go_ret
          exact ⟨rfl, hw3⟩
        · have hdb : ((nth ds 0 : Int) == 0) = false := by rw [beq_eq_false_iff_ne]; omega
          have HD := Lib.hid hd0
          clear hd0
          by_cases h3 : 300 < n1
          · have hE0 : E = 9 := by rw [HE4.out, decide_eq_false (by omega)]; rfl
            subst hE0
            go_wp2
            go_ret
            exact ⟨rfl, hw3⟩
          · by_cases hx1 : exp < -1000
            · have hE0 : E = 9 := by rw [HE4.out, decide_eq_false (show ¬ -1000 ≤ exp by omega)]; simp
              subst hE0
              go_wp2
              go_ret
              exact ⟨rfl, hw3⟩
            · by_cases hx2 : 1000 < exp
              · have hE0 : E = 9 := by rw [HE4.out, decide_eq_false (show ¬ exp ≤ 1000 by omega)]; simp
                subst hE0
                go_wp2
                go_ret
                exact ⟨rfl, hw3⟩
              · have hE0 : E = 0 := by rw [HE4.out, decide_eq_true (show n1 ≤ 300 by omega), decide_eq_true HD.out, decide_eq_true (show -1000 ≤ exp by omega), decide_eq_true (show exp ≤ 1000 by omega)]; rfl
                subst hE0
                go_wp2
                go_ret
                exact ⟨rfl, hw3⟩
  · have hE : okE neg xs exp = 9 := by
      unfold okE okB
      rw [decide_eq_false h0]; rfl
    have hce : (((chk xs : Nat) : Int) != 0) = true := by rw [bne_iff_ne]; omega
    rw [hE]
    have HCK := Lib.hid hck
    clear hck h0 hE
    unfold dv
    go_enter Tryz.func30, Tryz.ntmps30
    go_wp2_with fail
    refine HCK.out.mono ?_
    rintro e w1 ⟨rfl, rfl⟩
    go_wp2
    go_ret
    exact ⟨rfl, hb0⟩

set_option maxRecDepth 100000 in
set_option maxHeartbeats 1000000 in
theorem Rchecks_c {S : Nat → Prop} {n m c d : Nat} {A B : Option Addr} {xs ys : List Nat} (na nb : Bool) (e1 e2 : Int) (w : World) (ha : Rd w S A n xs) (hb : Rd w S B m ys) (hS : ∀ b, S b → b < w.heap.size) (hn : n ≤ 9223372036854775807) (hm : m ≤ 9223372036854775807) :
    Calls Tryz.prog 86 #[dv na A n c e1, dv nb B m d e2] w fun e w' => e = .returned (.int .i64 (okE2 na xs e1 nb ys e2 : Int)) ∧ Below w.heap.size w w' := by
  have h1 := fun V (h : Rd V S A n xs) hs => RCheck_c (c := c) na e1 V h hs hn
  have h2 := fun V (h : Rd V S B m ys) hs => RCheck_c (c := d) nb e2 V h hs hm
  obtain ⟨E, hE⟩ : ∃ E : Nat, E = okE2 na xs e1 nb ys e2 := ⟨_, rfl⟩
  rw [← hE]
  obtain ⟨E1, hE1⟩ : ∃ E : Nat, E = okE na xs e1 := ⟨_, rfl⟩
  obtain ⟨E2, hE2⟩ : ∃ E : Nat, E = okE nb ys e2 := ⟨_, rfl⟩
  have hc : (E1 ≠ 0 ∧ E = 9) ∨ (E1 = 0 ∧ E2 ≠ 0 ∧ E = 9) ∨ (E1 = 0 ∧ E2 = 0 ∧ E = 0) := by
    rw [hE, hE1, hE2]
    unfold okE2 okE
    by_cases k1 : okB na xs e1 = true
    · rw [if_pos k1, if_pos k1]
      by_cases k2 : okB nb ys e2 = true
      · rw [if_pos k2]; exact .inr (.inr ⟨rfl, rfl, rfl⟩)
      · rw [if_neg k2]; exact .inr (.inl ⟨rfl, by decide, rfl⟩)
    · rw [if_neg k1, if_neg k1]; exact .inl ⟨by decide, rfl⟩
  rw [← hE1] at h1
  rw [← hE2] at h2
  obtain ⟨m0, m1⟩ := two_new w (.cells #[.bool na, .slice A n c, .int .i64 e1] 24) (.cells #[.bool nb, .slice B m d, .int .i64 e2] 24)
  have hw : Below w.heap.size w ((w.alloc (.cells #[.bool na, .slice A n c, .int .i64 e1] 24)).alloc (.cells #[.bool nb, .slice B m d, .int .i64 e2] 24)) := ((Below.refl _ w).alloc (Nat.le_refl _) _).alloc (by simp) _
  unfold dv at h1 h2 ⊢
  have H1 := Lib.hid h1
  have H2 := Lib.hid h2
  have HC := Lib.hid hc
  have HM0 := Lib.hid m0
  have HM1 := Lib.hid m1
  clear h1 h2 hc hE hE1 hE2 m0 m1
  go_enter Tryz.func86, Tryz.ntmps86
  go_wp2_with fail
  have m0 := HM0.out
  have m1 := HM1.out
  clear HM0 HM1
  generalize ((w.alloc (.cells #[.bool na, .slice A n c, .int .i64 e1] 24)).alloc (.cells #[.bool nb, .slice B m d, .int .i64 e2] 24)) = W at m0 m1 hw ⊢
  have up : ∀ {W' : World}, Below w.heap.size w W' → ∀ b, S b → b < W'.heap.size := fun hW b h => by have := hS b h; have := hW.size; omega
  refine (H1.out W (ha.below hw hS) (up hw)).mono ?_
  rintro e w1 ⟨rfl, hb1⟩
  have m1 := heldz hb1 m1
  have hw := hw.trans (hb1.mono hw.size)
  obtain ⟨p0, p1, p2⟩ := box3_of m1
  rcases HC.out with ⟨f1, rfl⟩ | ⟨rfl, f2, rfl⟩ | ⟨rfl, rfl, rfl⟩
  · have hbE : ((E1 : Int) != 0) = true := by rw [bne_iff_ne]; omega
    clear f1
    go_wp2
    go_ret
    exact ⟨rfl, hw⟩
  · have hbE : ((E2 : Int) != 0) = true := by rw [bne_iff_ne]; omega
    clear f2
    go_wp2_with fail
    refine (H2.out w1 (hb.below hw hS) (up hw)).mono ?_
    rintro e w2 ⟨rfl, hb2⟩
    go_wp2
    go_ret
    exact ⟨rfl, hw.trans (hb2.mono hw.size)⟩
  · go_wp2_with fail
    refine (H2.out w1 (hb.below hw hS) (up hw)).mono ?_
    rintro e w2 ⟨rfl, hb2⟩
    go_wp2
    go_ret
    exact ⟨rfl, hw.trans (hb2.mono hw.size)⟩
end Go.Proofs.YtbbafggejnjjiaaGreatDoor
