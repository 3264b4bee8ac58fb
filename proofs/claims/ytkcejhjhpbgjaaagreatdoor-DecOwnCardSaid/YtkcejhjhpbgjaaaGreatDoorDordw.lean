/-
  The walk of the law DecOrder: it returns true, whatever the three decimals read as.
-/
import Derived.Test.YtkcejhjhpbgjaaaGreatDoorDv
import Derived.Test.YtkcejhjhpbgjaaaGreatDoorDsv
import Derived.Test.YtkcejhjhpbgjaaaGreatDoorDq
import Derived.Test.YtkcejhjhpbgjaaaGreatDoorDx
set_option linter.unusedVariables false
set_option linter.unusedSimpArgs false
namespace Go.Proofs.YtkcejhjhpbgjaaaGreatDoor
open Go.RowKit

/-- What Compare answers, in numbers. -/
def cmpV (na : Bool) (xs : List Nat) (e1 : Int) (nb : Bool) (ys : List Nat) (e2 : Int) : Int := if okE2 na xs e1 nb ys e2 = 0 then cmpI (sv na (val xs) e1) (sv nb (val ys) e2) else 0
theorem okE2_zero {na nb : Bool} {xs ys : List Nat} {e1 e2 : Int} : okE2 na xs e1 nb ys e2 = 0 ↔ okB na xs e1 = true ∧ okB nb ys e2 = true := by
  unfold okE2 okE
  by_cases h1 : okB na xs e1 = true
  · rw [if_pos h1]
    by_cases h2 : okB nb ys e2 = true
    · rw [if_pos h2]; exact ⟨fun _ => ⟨h1, h2⟩, fun _ => rfl⟩
    · rw [if_neg h2]; exact ⟨fun h => by omega, fun h => absurd h.2 h2⟩
  · rw [if_neg h1]; exact ⟨fun h => by omega, fun h => absurd h.1 h1⟩
theorem okE2_val (na nb : Bool) (xs ys : List Nat) (e1 e2 : Int) : okE2 na xs e1 nb ys e2 = 0 ∨ okE2 na xs e1 nb ys e2 = 9 := by
  unfold okE2 okE
  split
  · split
    · exact .inl rfl
    · exact .inr rfl
  · exact .inr rfl
theorem DCompare_v {S : Nat → Prop} {n m c d : Nat} {A B : Option Addr} {xs ys : List Nat} (na nb : Bool) (e1 e2 : Int) (w : World)
    (ha1 : Rd w S A n xs) (ha2 : Rd w S B m ys) (hS : ∀ b, S b → b < w.heap.size) (hn : n ≤ 9223372036854775807) (hm : m ≤ 9223372036854775807) :
    Calls Tryz.prog 17 #[dv na A n c e1, dv nb B m d e2] w fun e w' => e = .returned (.tuple #[.int .i64 (cmpV na xs e1 nb ys e2), .int .i64 (okE2 na xs e1 nb ys e2 : Int)]) ∧ Below w.heap.size w w' := by
  obtain ⟨P1, hP1⟩ : ∃ P1 : Nat, e1 - min e1 e2 = (P1 : Int) := ⟨(e1 - min e1 e2).toNat, by omega⟩
  obtain ⟨P2, hP2⟩ : ∃ P2 : Nat, e2 - min e1 e2 = (P2 : Int) := ⟨(e2 - min e1 e2).toNat, by omega⟩
  refine (DCompare_c (c := c) (d := d) na nb e1 e2 _ P1 P2 w ha1 ha2 hS hn hm rfl hP1 hP2).mono ?_
  rintro e w' ⟨hbad, hgood, hb⟩
  refine ⟨?_, hb⟩
  unfold cmpV
  by_cases h0 : okE2 na xs e1 nb ys e2 = 0
  · obtain ⟨k1, k2⟩ := okE2_zero.1 h0
    obtain ⟨_, _, _, r1, _, _⟩ := okB_true ha1.l32 k1
    obtain ⟨_, _, _, r2, _, _⟩ := okB_true ha2.l32 k2
    rw [hgood h0, if_pos h0, h0, dcN_sv (okB_pos ha1.l32 k1) (okB_pos ha2.l32 k2) (by omega) hP1 hP2]
    rfl
  · rw [hbad h0, if_neg h0]

theorem cmpI_three (x y : Int) : (x < y ∧ cmpI x y = -1) ∨ (x = y ∧ cmpI x y = 0) ∨ (y < x ∧ cmpI x y = 1) := by
  unfold cmpI
  rcases Int.lt_trichotomy x y with h | h | h
  · exact .inl ⟨h, if_pos h⟩
  · exact .inr (.inl ⟨h, by rw [if_neg (by omega), if_neg (by omega)]⟩)
  · exact .inr (.inr ⟨h, by rw [if_neg (by omega), if_pos h]⟩)

set_option maxRecDepth 100000 in
set_option maxHeartbeats 4000000 in
theorem DecOrder_c {S : Nat → Prop} {n m l c d f : Nat} {A B C : Option Addr} {xs ys us : List Nat} (na nb nc : Bool) (e1 e2 e3 : Int) (w : World) (ha : Rd w S A n xs) (hb : Rd w S B m ys) (hc : Rd w S C l us)
    (hS : ∀ b, S b → b < w.heap.size) (hn : n ≤ 9223372036854775807) (hm : m ≤ 9223372036854775807) (hl : l ≤ 9223372036854775807) :
    Calls Tryz.prog 6 #[dv na A n c e1, dv nb B m d e2, dv nc C l f e3] w fun e w' => e = .returned (.bool true) ∧ Below w.heap.size w w' := by
  -- what the four orders are
  obtain ⟨x, hx⟩ : ∃ x, x = cmpV na xs e1 nb ys e2 := ⟨_, rfl⟩
  obtain ⟨y, hy⟩ : ∃ y, y = cmpV nb ys e2 nc us e3 := ⟨_, rfl⟩
  obtain ⟨z, hz⟩ : ∃ z, z = cmpV na xs e1 nc us e3 := ⟨_, rfl⟩
  obtain ⟨v, hv⟩ : ∃ v, v = cmpV nb ys e2 na xs e1 := ⟨_, rfl⟩
  obtain ⟨E, hE⟩ : ∃ E : Nat, E = okE2 na xs e1 nb ys e2 := ⟨_, rfl⟩
  obtain ⟨F, hF⟩ : ∃ F : Nat, F = okE2 nb ys e2 nc us e3 := ⟨_, rfl⟩
  obtain ⟨G, hG⟩ : ∃ G : Nat, G = okE2 na xs e1 nc us e3 := ⟨_, rfl⟩
  obtain ⟨H, hH⟩ : ∃ H : Nat, H = okE2 nb ys e2 na xs e1 := ⟨_, rfl⟩
  obtain ⟨r, hr⟩ : ∃ r, r = decide (na = nb ∧ e1 = e2 ∧ xs = ys) := ⟨_, rfl⟩
  have facts : (E ≠ 0 ∧ x = 0) ∨ (E = 0 ∧ F ≠ 0 ∧ y = 0) ∨ (E = 0 ∧ F = 0 ∧ G = 0 ∧ H = 0 ∧ v = -x ∧ (x == 0) = r ∧ -1 ≤ x ∧ x ≤ 1 ∧ (0 < x ∨ 0 < y ∨ z ≤ 0)) := by
    by_cases h1 : E = 0
    · by_cases h2 : F = 0
      · refine .inr (.inr ⟨h1, h2, ?_⟩)
        rw [hE] at h1
        rw [hF] at h2
        obtain ⟨k1, k2⟩ := okE2_zero.1 h1
        obtain ⟨_, k3⟩ := okE2_zero.1 h2
        have g1 : okE2 na xs e1 nc us e3 = 0 := okE2_zero.2 ⟨k1, k3⟩
        have g2 : okE2 nb ys e2 na xs e1 = 0 := okE2_zero.2 ⟨k2, k1⟩
        refine ⟨hG.trans g1, hH.trans g2, ?_⟩
        unfold cmpV at hx hy hz hv
        rw [if_pos h1] at hx
        rw [if_pos h2] at hy
        rw [if_pos g1] at hz
        rw [if_pos g2] at hv
        have hr2 : r = decide (sv na (val xs) e1 = sv nb (val ys) e2) := by
          rw [hr]
          by_cases h : na = nb ∧ e1 = e2 ∧ xs = ys
          · rw [decide_eq_true h, decide_eq_true]
            obtain ⟨rfl, rfl, rfl⟩ := h; rfl
          · rw [decide_eq_false h, decide_eq_false]
            exact fun e => h (sv_inj ha.l32 hb.l32 k1 k2 e)
        generalize sv na (val xs) e1 = X at *
        generalize sv nb (val ys) e2 = Y at *
        generalize sv nc (val us) e3 = Z at *
        rw [hr2, hx, hy, hz, hv]
        rcases cmpI_three X Y with ⟨h, e⟩ | ⟨h, e⟩ | ⟨h, e⟩ <;> rcases cmpI_three Y X with ⟨h', e'⟩ | ⟨h', e'⟩ | ⟨h', e'⟩ <;> rcases cmpI_three Y Z with ⟨h'', e''⟩ | ⟨h'', e''⟩ | ⟨h'', e''⟩ <;> rcases cmpI_three X Z with ⟨g, ee⟩ | ⟨g, ee⟩ | ⟨g, ee⟩ <;>
          first
          | (exfalso; omega)
          | (rw [e, e', e'', ee]; refine ⟨by omega, ?_, by omega, by omega, by omega⟩; first | (rw [decide_eq_true h]; rfl) | (rw [decide_eq_false (by omega)]; rfl))
      · exact .inr (.inl ⟨h1, h2, by rw [hy]; unfold cmpV; rw [← hF, if_neg h2]⟩)
    · exact .inl ⟨h1, by rw [hx]; unfold cmpV; rw [← hE, if_neg h1]⟩
  have HX := Lib.hid hx
  have HY := Lib.hid hy
  have HZ := Lib.hid hz
  have HV := Lib.hid hv
  have HE := Lib.hid hE
  have HF := Lib.hid hF
  have HG := Lib.hid hG
  have HH := Lib.hid hH
  have HR := Lib.hid hr
  have HFA := Lib.hid facts
  clear hx hy hz hv hE hF hG hH hr facts
  have hcab := fun W Sx (h1 : Rd W Sx A n xs) (h2 : Rd W Sx B m ys) hs => DCompare_v (c := c) (d := d) na nb e1 e2 W h1 h2 hs hn hm
  have hcbc := fun W Sx (h1 : Rd W Sx B m ys) (h2 : Rd W Sx C l us) hs => DCompare_v (c := d) (d := f) nb nc e2 e3 W h1 h2 hs hm hl
  have hcac := fun W Sx (h1 : Rd W Sx A n xs) (h2 : Rd W Sx C l us) hs => DCompare_v (c := c) (d := f) na nc e1 e3 W h1 h2 hs hn hl
  have hcba := fun W Sx (h1 : Rd W Sx B m ys) (h2 : Rd W Sx A n xs) hs => DCompare_v (c := d) (d := c) nb na e2 e1 W h1 h2 hs hm hn
  have hsam := fun W Sx (h1 : Rd W Sx A n xs) (h2 : Rd W Sx B m ys) hs => DSame_c (c := c) (d := d) na nb e1 e2 W h1 h2 hs hs hn hm
  unfold dv at hcab hcbc hcac hcba hsam ⊢
  rw [← HX.out, ← HE.out] at hcab
  rw [← HY.out, ← HF.out] at hcbc
  rw [← HZ.out, ← HG.out] at hcac
  rw [← HV.out, ← HH.out] at hcba
  rw [← HR.out] at hsam
  have CAB := Lib.hid hcab
  have CBC := Lib.hid hcbc
  have CAC := Lib.hid hcac
  have CBA := Lib.hid hcba
  have SAM := Lib.hid hsam
  clear hcab hcbc hcac hcba hsam
  go_enter Tryz.func6, Tryz.ntmps6
  go_wp2_with fail
  obtain ⟨m0, m1, m2, hW, hsz⟩ := three_new w (.cells #[.bool na, .slice A n c, .int .i64 e1] 24) (.cells #[.bool nb, .slice B m d, .int .i64 e2] 24) (.cells #[.bool nc, .slice C l f, .int .i64 e3] 24)
  generalize (((w.alloc (.cells #[.bool na, .slice A n c, .int .i64 e1] 24)).alloc (.cells #[.bool nb, .slice B m d, .int .i64 e2] 24)).alloc (.cells #[.bool nc, .slice C l f, .int .i64 e3] 24)) = W at m0 m1 m2 hW hsz ⊢
  have up : ∀ {W' : World}, Below w.heap.size w W' → ∀ b, S b → b < W'.heap.size := fun hW b h => by have := hS b h; have := hW.size; omega
  refine (alive2_c W).mono ?_
  rintro e w1 ⟨rfl, hb1⟩
  have hw1 := hW.trans (hb1.mono (by omega))
  have q0 := held hb1 (by omega) m0
  have q1 := held hb1 (by omega) m1
  have q2 := held hb1 (by omega) m2
  have hs1 := hb1.size
  clear m0 m1 m2
  obtain ⟨p0, p1, p2⟩ := box3_of q0
  obtain ⟨p3, p4, p5⟩ := box3_of q1
  go_wp2_with fail
  refine (CAB.out w1 S (ha.below hw1 hS) (hb.below hw1 hS) (up hw1)).mono ?_
  rintro e w2 ⟨rfl, hb2⟩
  have hw2 := hw1.trans (hb2.mono hw1.size)
  have m0 := held hb2 (by omega) q0
  have m1 := held hb2 (by omega) q1
  have m2 := held hb2 (by omega) q2
  have hs2 := hb2.size
  clear q0 q1 q2 p0 p1 p2 p3 p4 p5
  obtain ⟨p0, p1, p2⟩ := box3_of m1
  obtain ⟨p3, p4, p5⟩ := box3_of m2
  go_wp2_with fail
  refine (CBC.out w2 S (hb.below hw2 hS) (hc.below hw2 hS) (up hw2)).mono ?_
  rintro e w3 ⟨rfl, hb3⟩
  have hw3 := hw2.trans (hb3.mono hw2.size)
  have q0 := held hb3 (by omega) m0
  have q1 := held hb3 (by omega) m1
  have q2 := held hb3 (by omega) m2
  have hs3 := hb3.size
  clear m0 m1 m2 p0 p1 p2 p3 p4 p5
  obtain ⟨p0, p1, p2⟩ := box3_of q0
  obtain ⟨p3, p4, p5⟩ := box3_of q2
  go_wp2_with fail
  refine (CAC.out w3 S (ha.below hw3 hS) (hc.below hw3 hS) (up hw3)).mono ?_
  rintro e w4 ⟨rfl, hb4⟩
  have hw4 := hw3.trans (hb4.mono hw3.size)
  have m0 := held hb4 (by omega) q0
  have m1 := held hb4 (by omega) q1
  have hs4 := hb4.size
  clear q0 q1 q2 p0 p1 p2 p3 p4 p5
  obtain ⟨p0, p1, p2⟩ := box3_of m0
  obtain ⟨p3, p4, p5⟩ := box3_of m1
  go_wp2_with fail
  refine (CBA.out w4 S (hb.below hw4 hS) (ha.below hw4 hS) (up hw4)).mono ?_
  rintro e w5 ⟨rfl, hb5⟩
  have hw5 := hw4.trans (hb5.mono hw4.size)
  have q0 := held hb5 (by omega) m0
  have q1 := held hb5 (by omega) m1
  have hs5 := hb5.size
  clear m0 m1 p0 p1 p2 p3 p4 p5
  obtain ⟨p0, p1, p2⟩ := box3_of q0
  obtain ⟨p3, p4, p5⟩ := box3_of q1
  rcases HFA.out with ⟨f1, f2⟩ | ⟨f1, f2, f3⟩ | ⟨f1, f2, f3, f4, f5, f6, f7, f8, f9⟩
  · obtain rfl := f2
    have hE : ((E : Int) != 0) = true := by rw [bne_iff_ne]; omega
    clear f1
    go_wp2_with (go_at_call 25; refine (num2_c _ _).mono ?_; rintro e w' ⟨rfl, rfl⟩)
    go_ret
    exact ⟨rfl, hw5⟩
  · obtain rfl := f1
    obtain rfl := f3
    have hF : ((F : Int) != 0) = true := by rw [bne_iff_ne]; omega
    clear f2
    by_cases hx0 : x = 0
    · subst hx0
      go_wp2_with (go_at_call 25; refine (num2_c _ _).mono ?_; rintro e w' ⟨rfl, rfl⟩)
      go_ret
      exact ⟨rfl, hw5⟩
    · have hxb : (x == 0) = false := by rw [beq_eq_false_iff_ne]; exact hx0
      clear hx0
      go_wp2_with (go_at_call 25; refine (num2_c _ _).mono ?_; rintro e w' ⟨rfl, rfl⟩)
      go_ret
      exact ⟨rfl, hw5⟩
  · obtain rfl := f1
    obtain rfl := f2
    obtain rfl := f3
    obtain rfl := f4
    obtain rfl := f5
    obtain rfl := f6
    clear p0 p1 p2 p3 p4 p5
    obtain ⟨p0, p1, p2⟩ := box3_of q0
    obtain ⟨p3, p4, p5⟩ := box3_of q1
    go_wp2_with (first
      | (go_at_call 25; refine (num2_c _ _).mono ?_; rintro e w' ⟨rfl, rfl⟩)
      | fail)
    refine (SAM.out w5 S (ha.below hw5 hS) (hb.below hw5 hS) (up hw5)).mono ?_
    rintro e w6 ⟨rfl, hb6⟩
    have hw6 := hw5.trans (hb6.mono hw5.size)
    clear p0 p1 p2 p3 p4 p5
    by_cases g1 : 0 < x
    · go_wp2
      go_ret
      exact ⟨rfl, hw6⟩
    · by_cases g2 : 0 < y
      · go_wp2
        go_ret
        exact ⟨rfl, hw6⟩
      · have g3 : z ≤ 0 := by omega
        clear f9
        go_wp2
        go_ret
        exact ⟨rfl, hw6⟩
end Go.Proofs.YtkcejhjhpbgjaaaGreatDoor
