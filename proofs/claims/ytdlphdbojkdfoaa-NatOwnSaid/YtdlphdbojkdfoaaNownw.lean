/-
  The walk of the law NatOwn: it returns true, whatever the two slices are.
-/
import Derived.Test.YtdlphdbojkdfoaaTellsw
set_option linter.unusedVariables false
set_option linter.unusedSimpArgs false
namespace Go.Proofs.Ytdlphdbojkdfoaa
open Go.RowKit

theorem Res.ownBlock_ge {w : World} {base n c : Nat} {A : Option Addr} {zs : List Nat} (h : Res w base A n c zs) : ∀ k, (Value.slice A n c).ownBlock = some k → base ≤ k ∧ k < w.heap.size := fun k hk => by
  rcases h.form with ⟨h1, _⟩ | ⟨g, h1, h2, h3⟩
  · rw [h1] at hk; simp [Value.ownBlock] at hk
  · rw [h1] at hk; simp [Value.ownBlock] at hk; omega
/-- A row kept where another one's block, that lies below, is written. -/
theorem Res.spoilt {w w' : World} {base n c m d : Nat} {A B : Option Addr} {zs : List Nat} (h : Res w base A n c zs) (hg : w.grownBy w' (Value.slice B m d).ownBlock) (hb : ∀ k, (Value.slice B m d).ownBlock = some k → k < base) : Res w' base A n c zs :=
  h.grown hg (fun g e he => by
    have h1 := hb g he.symm
    rcases h.form with ⟨h2, _⟩ | ⟨g', h2, h3, _⟩
    · rw [h2] at e; cases e
    · rw [h2] at e; injection e with e; injection e with e; omega)
theorem rest_same {xs ys qs rs qs' rs' : List Nat} {n2 n2' : Nat} (l1 : rs.length = n2) (l2 : rs'.length = n2') (h1 : divE xs ys ≠ 0 → n2 = 0) (h1' : divE xs ys ≠ 0 → n2' = 0)
    (h2 : divE xs ys = 0 → Can qs ∧ Can rs ∧ val xs = val qs * val ys + val rs ∧ val rs < val ys) (h2' : divE xs ys = 0 → Can qs' ∧ Can rs' ∧ val xs = val qs' * val ys + val rs' ∧ val rs' < val ys) : rs = rs' := by
  by_cases h : divE xs ys = 0
  · obtain ⟨_, c1, e1, b1⟩ := h2 h
    obtain ⟨_, c2, e2, b2⟩ := h2' h
    refine c1.inj c2 ?_
    have m1 : val xs % val ys = val rs := by rw [e1, Nat.add_comm, Nat.mul_comm, Nat.add_mul_mod_self_left, Nat.mod_eq_of_lt b1]
    have m2 : val xs % val ys = val rs' := by rw [e2, Nat.add_comm, Nat.mul_comm, Nat.add_mul_mod_self_left, Nat.mod_eq_of_lt b2]
    rw [← m1, m2]
  · rw [List.eq_nil_of_length_eq_zero (l1.trans (h1 h)), List.eq_nil_of_length_eq_zero (l2.trans (h1' h))]

set_option maxRecDepth 100000 in
set_option maxHeartbeats 2000000 in
theorem NatOwn_c {S1 S2 : Nat → Prop} {n m c d : Nat} {A B : Option Addr} {xs ys : List Nat} (w : World) (ha : Rd w S1 A n xs) (hb : Rd w S2 B m ys)
    (hS1 : ∀ b, S1 b → b < w.heap.size) (hS2 : ∀ b, S2 b → b < w.heap.size) (hn : n ≤ 35184372088832) (hm : m ≤ 35184372088832) :
    Calls Try.prog 5 #[.slice A n c, .slice B m d] w fun e w' => e = .returned (.bool true) ∧ Below w.heap.size w w' := by
  have up : ∀ {W : World} {S : Nat → Prop}, Below w.heap.size w W → (∀ b, S b → b < w.heap.size) → ∀ b, S b → b < W.heap.size := fun hW hS b h => by have := hS b h; have := hW.size; omega
  go_enter Try.func5, Try.ntmps5
  go_wp2_with fail
  refine (alive_c w).mono ?_
  rintro e w0 ⟨rfl, hw0⟩
  go_wp2_with fail
  refine (CopyLimbs_c w0 (ha.below hw0 hS1) hn).mono ?_
  rintro e w1 ⟨A1, c1, rfl, r1, hb1⟩
  have hw1 := hw0.trans (hb1.mono hw0.size)
  have o1 := Lib.hid r1.ownBlock_ge
  go_wp2_with fail
  refine (CopyLimbs_c w1 (hb.below hw1 hS2) hm).mono ?_
  rintro e w2 ⟨A2, c2, rfl, r2, hb2⟩
  replace r1 := r1.below hb2 (Nat.le_refl _)
  have hw2 := hw1.trans (hb2.mono hw1.size)
  have s3 := hb2.size
  have o2 := Lib.hid r2.ownBlock_ge
  have s1 := hw0.size
  have s2 := hw1.size
  go_wp2_with fail
  refine (Add_c w2 r1.rd r2.rd (fun b h => h.2) (fun b h => h.2) r1.lt r2.lt).mono ?_
  rintro e w3 ⟨A3, n3, c3, rfl, r3, hb3⟩
  replace r1 := r1.below hb3 (Nat.le_refl _)
  replace r2 := r2.below hb3 (Nat.le_refl _)
  have hw3 := hw2.trans (hb3.mono hw2.size)
  go_wp2_with fail
  refine (Div_c w3 r1.rd r2.rd (fun b h => h.2) (fun b h => h.2) r1.lt r2.lt).mono ?_
  rintro e w4 ⟨A4, n4, c4, qs, A5, n5, c5, rs, rfl, r4, r5, he1, he2, hb4⟩
  replace r1 := r1.below hb4 (Nat.le_refl _)
  replace r2 := r2.below hb4 (Nat.le_refl _)
  replace r3 := r3.below hb4 (Nat.le_refl _)
  have hw4 := hw3.trans (hb4.mono hw3.size)
  have HE1 := Lib.hid he1
  have HE2 := Lib.hid he2
  clear he1 he2 r4
  go_wp2_with fail
  refine (Spoil_c w4 r1).mono ?_
  rintro e w5 ⟨⟨v5, rfl⟩, hg5⟩
  have hw5 : Below w.heap.size w w5 := hw4.grown hg5 hw4.size (fun k hk => by have := o1.out k hk; omega)
  replace r2 := r2.spoilt hg5 (fun k hk => by have := o1.out k hk; have := hb3.size; omega)
  replace r3 := r3.spoilt hg5 (fun k hk => by have := o1.out k hk; have := hb3.size; omega)
  replace r5 := r5.spoilt hg5 (fun k hk => by have := o1.out k hk; have := hb3.size; omega)
  clear r1 hg5
  go_wp2_with fail
  refine (Spoil_c w5 r2).mono ?_
  rintro e w6 ⟨⟨v6, rfl⟩, hg6⟩
  have hw6 : Below w.heap.size w w6 := hw5.grown hg6 hw5.size (fun k hk => by have := o2.out k hk; omega)
  replace r3 := r3.spoilt hg6 (fun k hk => by have := o2.out k hk; have := hb3.size; omega)
  replace r5 := r5.spoilt hg6 (fun k hk => by have := o2.out k hk; have := hb3.size; omega)
  clear r2 hg6
  go_wp2_with fail
  refine (rAdd_c w6 (ha.below hw6 hS1) (hb.below hw6 hS2) (up hw6 hS1) (up hw6 hS2) (by omega) (by omega)).mono ?_
  rintro e w7 ⟨A6, n6, c6, rfl, r6, hb7⟩
  replace r3 := r3.below hb7 (Nat.le_refl _)
  replace r5 := r5.below hb7 (Nat.le_refl _)
  have hw7 := hw6.trans (hb7.mono hw6.size)
  go_wp2_with fail
  refine (rDiv_c w7 (ha.below hw7 hS1) (hb.below hw7 hS2) (up hw7 hS1) (up hw7 hS2) (by omega) (by omega)).mono ?_
  rintro e w8 ⟨A7, n7, c7, qs2, A8, n8, c8, rs2, rfl, r7, r8, he3, he4, hb8⟩
  replace r3 := r3.below hb8 (Nat.le_refl _)
  replace r5 := r5.below hb8 (Nat.le_refl _)
  replace r6 := r6.below hb8 (Nat.le_refl _)
  have hw8 := hw7.trans (hb8.mono hw7.size)
  have HR : Hid (rs = rs2) := rest_same r5.len r8.len (fun h => (HE1.out h).2) (fun h => (he3 h).2) HE2.out he4
  clear he3 he4 r7
  go_wp2_with (go_at_call 15; refine (num_c _ _).mono ?_; rintro e w' ⟨rfl, rfl⟩)
  refine (SameLimbs_d w8 r3.rd r6.rd rfl r3.lt r6.lt).mono ?_
  rintro e w9 ⟨rfl, hb9⟩
  replace r3 := r3.below hb9 (Nat.le_refl _)
  replace r5 := r5.below hb9 (Nat.le_refl _)
  replace r6 := r6.below hb9 (Nat.le_refl _)
  replace r8 := r8.below hb9 (Nat.le_refl _)
  have hw9 := hw8.trans (hb9.mono hw8.size)
  go_wp2_with (go_at_call 15; refine (num_c _ _).mono ?_; rintro e w' ⟨rfl, rfl⟩)
  refine (SameLimbs_d w9 r5.rd r8.rd HR.out r5.lt r8.lt).mono ?_
  rintro e w10 ⟨rfl, hb10⟩
  replace r3 := r3.below hb10 (Nat.le_refl _)
  replace r5 := r5.below hb10 (Nat.le_refl _)
  replace r6 := r6.below hb10 (Nat.le_refl _)
  replace r8 := r8.below hb10 (Nat.le_refl _)
  have hw10 := hw9.trans (hb10.mono hw9.size)
  go_wp2_with (go_at_call 15; refine (num_c _ _).mono ?_; rintro e w' ⟨rfl, rfl⟩)
  go_ret
  exact ⟨rfl, hw10⟩
end Go.Proofs.Ytdlphdbojkdfoaa
