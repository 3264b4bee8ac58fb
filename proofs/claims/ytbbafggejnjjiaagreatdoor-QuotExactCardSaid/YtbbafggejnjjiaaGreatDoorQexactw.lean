/-
  The walk of the law QuotExact: it returns true, whatever the two decimals read as.
-/
import Derived.Test.YtbbafggejnjjiaaGreatDoorQalive
import Derived.Test.YtbbafggejnjjiaaGreatDoorDrmul
import Derived.Test.YtbbafggejnjjiaaGreatDoorDtold
set_option linter.unusedVariables false
set_option linter.unusedSimpArgs false
namespace Go.Proofs.YtbbafggejnjjiaaGreatDoor
open Go.RowKit

theorem okB_L {neg : Bool} {xs : List Nat} {exp : Int} (h : okB neg xs exp = true) : (dOf (val xs)).length ≤ 300 := okB_len h
theorem dOf_len_eq {ds : List Nat} (h : DCan ds) : ds.length = (dOf (dval ds)).length := by rw [← eq_dOf h]
theorem field_num (neg : Bool) (A : Option Addr) (n c : Nat) (e : Int) (w : World) : (Instr.field 41 (.agg #[.bool neg, .slice A n c, .int .i64 e]) 1).run Tryz.prog w = .ok (.slice A n c) w := by kernel_rfl
theorem field_num2 (neg : Bool) (A : Option Addr) (n c : Nat) (e : Int) (w : World) : (Instr.field 41 (.agg #[.bool neg, .slice A n c, .int .i64 e]) 2).run Tryz.prog w = .ok (.int .i64 e) w := by kernel_rfl
set_option maxRecDepth 100000 in
set_option maxHeartbeats 4000000 in
theorem QuotExact_c {S : Nat → Prop} {n m c d : Nat} {A B : Option Addr} {xs ys : List Nat} (na nb : Bool) (e1 e2 : Int) (w : World) (ha : Rd w S A n xs) (hb : Rd w S B m ys)
    (hS : ∀ b, S b → b < w.heap.size) (hn : n ≤ 9223372036854775807) (hm : m ≤ 9223372036854775807) :
    Calls Tryz.prog 5 #[dv na A n c e1, dv nb B m d e2] w fun e w' => e = .returned (.bool true) ∧ Below w.heap.size w w' := by
  have up : ∀ {V : World}, Below w.heap.size w V → ∀ b, b < w.heap.size → b < V.heap.size := fun h b hb => by have := h.size; omega
  have hW : Below w.heap.size w ((w.alloc (.cells #[.bool na, .slice A n c, .int .i64 e1] 24)).alloc (.cells #[.bool nb, .slice B m d, .int .i64 e2] 24)) := ((Below.refl w.heap.size w).alloc (Nat.le_refl _) _).alloc (by simp) _
  obtain ⟨ma, mb⟩ := two_new w (.cells #[.bool na, .slice A n c, .int .i64 e1] 24) (.cells #[.bool nb, .slice B m d, .int .i64 e2] 24)
  have HMul := Lib.hid (fun V (h1 : Rd V S A n xs) (h2 : Rd V S B m ys) hs => RMul_v (c := c) (d := d) na nb e1 e2 V h1 h2 hs hn hm)
  unfold dv at HMul
  unfold dv
  go_enter Tryz.func5, Tryz.ntmps5
  go_wp2_with fail
  generalize ((w.alloc (.cells #[.bool na, .slice A n c, .int .i64 e1] 24)).alloc (.cells #[.bool nb, .slice B m d, .int .i64 e2] 24)) = W at ma mb hW ⊢
  refine (alive3_c W).mono ?_
  rintro e w0 ⟨rfl, hb0⟩
  have ma := heldz hb0 ma
  have mb := heldz hb0 mb
  have hB := hW.trans (hb0.mono hW.size)
  obtain ⟨x0, x1, x2⟩ := box3_of ma
  obtain ⟨y0, y1, y2⟩ := box3_of mb
  clear hW hb0
  go_wp2_with fail
  refine (HMul.out w0 (ha.below hB hS) (hb.below hB hS) (fun b h => up hB b (hS b h))).mono ?_
  rintro e w1 ⟨ht, hb0⟩
  have ma := heldz hb0 ma
  have mb := heldz hb0 mb
  have hBs := hB.size
  by_cases hk : okE2 na xs e1 nb ys e2 = 0
  · obtain ⟨k1, k2⟩ := okE2_zero.1 hk
    obtain ⟨a1, a2, a3, a4, _, _⟩ := okB_true ha.l32 k1
    obtain ⟨b1, b2, b3, b4, _, _⟩ := okB_true hb.l32 k2
    obtain ⟨A1, n1, c1, N1, X1, L1, E1, rfl, r1, hc1⟩ := told_cases ht (by omega)
    have r1 := r1.more (base' := w.heap.size) hBs
    have hB := hB.trans (hb0.mono hB.size)
    clear ht
    dsimp only [dv]
    go_upto_region 4 with fail
    have hal : Below w1.heap.size w1 (w1.alloc (.cells #[.bool N1, .slice A1 n1 c1, .int .i64 X1] 24)) := (Below.refl _ _).alloc (Nat.le_refl _) _
    have mp := World.alloc_heap_new w1 (.cells #[.bool N1, .slice A1 n1 c1, .int .i64 X1] 24)
    have ma := heldz hal ma
    have mb := heldz hal mb
    have r1 := r1.below hal (Nat.le_refl _)
    have hBW := hB.trans (hal.mono hB.size)
    clear x0 x1 x2 y0 y1 y2 hb0
    generalize w1.alloc (.cells #[.bool N1, .slice A1 n1 c1, .int .i64 X1] 24) = W1 at ma mb mp r1 hBW ⊢
    clear hal
    rcases hc1 with ⟨-, rfl, -, -, -, -, o1, l1, hv1, -⟩ | ⟨hE, -, -, -, -, -⟩
    · by_cases hm0 : m = 0
      · subst hm0
        obtain ⟨y0, y1, y2⟩ := box3_of mb
        go_wp2_with fail
        go_ret
        exact ⟨rfl, hBW⟩
      · have hmb : ((m : Int) == 0) = false := by rw [beq_eq_false_iff_ne]; omega
        have hyp : 0 < val ys := by
          rcases Nat.eq_zero_or_pos (val ys) with h2 | h2
          · have hl := hb.len
            rw [b1.val_zero h2] at hl; simp at hl; omega
          · exact h2
        have hn256 : n ≤ 256 := by rw [← ha.len]; exact a2
        obtain ⟨x0, x1, x2⟩ := box3_of ma
        obtain ⟨y0, y1, y2⟩ := box3_of mb
        have hof := Of_c (c := c) na e1 W1 (ha.below hBW hS) (fun b h => up hBW b (hS b h)) hn256
        unfold dv nv at hof
        clear hm0
        go_wp2_with fail
        refine hof.mono ?_
        rintro e w2 ⟨A2, n2, c2, ds, rfl, r2, d2, v2, hn2, hb0⟩
        have hl2 : n2 = (dOf (val xs)).length := by rw [← v2, ← dOf_len_eq d2]; exact r2.len.symm
        have ma := heldz hb0 ma
        have mb := heldz hb0 mb
        have mp := heldz hb0 mp
        have hB2 := hBW.trans (hb0.mono hBW.size)
        have r1 := r1.below hb0 (Nat.le_refl _)
        clear hof x0 x1 x2 y0 y1 y2 r2
        have hfl := field_num na A2 n2 c2 e1
        by_cases h40 : 40 < n2
        · have hi : (40 : Int) < (n2 : Int) := by omega
          clear h40 hl2
          go_wp2_with fail
          go_ret
          exact ⟨rfl, hB2⟩
        · have hi : (n2 : Int) ≤ 40 := by omega
          have hv40 : val xs < 10 ^ 40 := by
            have h1 := nd_lt (v := val xs)
            have h2 : nd (val xs) ≤ 40 := by unfold nd; split <;> omega
            exact Nat.lt_of_lt_of_le h1 (Nat.pow_le_pow_right (by omega) h2)
          obtain ⟨p1, p2, p3, p4, _, _⟩ := okB_true l1 o1
          have hsv := exact_back (na := na) (nb := nb) hyp hv40 p3 b3 a4 b4 p4 hv1
          obtain ⟨q1, q2⟩ := qS_bounds p3 b3
          have hbk := settle_back ha.l32 k1 (by unfold qX; omega) hsv
          have hn1 : n1 ≤ 9223372036854775807 := by have h1 := r1.n_le; unfold maxLen at h1; omega
          have hdiv := QDiv_c (c := c1) (d := d) N1 nb X1 e2 w2 (r1.rd.more (S' := fun b => b < w2.heap.size) (fun b h => h.2)) ((hb.below hB2 hS).more (S' := fun b => b < w2.heap.size) (fun b h => up hB2 b (hS b h))) (fun b h => h) hn1 hm
          unfold dv at hdiv
          obtain ⟨x0, x1, x2⟩ := box3_of ma
          obtain ⟨y0, y1, y2⟩ := box3_of mb
          obtain ⟨z0, z1, z2⟩ := box3_of mp
          clear h40 hl2 hv40 hsv q1 q2 p1 p2 p3 p4 hv1
          go_wp2_with fail
          refine hdiv.mono ?_
          rintro e w3 ⟨⟨E0, s0, Z0, lo0, hP, A3, n3, c3, rfl, r3⟩, hb0⟩
          obtain ⟨rfl, rfl, rfl, rfl⟩ : E0 = 0 ∧ s0 = (N1 != nb) ∧ Z0 = qZ (val L1) (val ys) ∧ lo0 = qX (val L1) (val ys) X1 e2 := by
            have hk2 : okE2 N1 L1 X1 nb ys e2 = 0 := okE2_zero.2 ⟨o1, k2⟩
            rcases hP with ⟨h, _⟩ | ⟨_, ⟨h, _⟩ | ⟨_, h1, h2, h3, h4⟩⟩
            · exact absurd hk2 h
            · omega
            · exact ⟨h1, h2, h3, h4⟩
          obtain ⟨s1, s2, s3, s4⟩ := hbk
          rw [show opZ 0 (qZ (val L1) (val ys)) (qX (val L1) (val ys) X1 e2) = xs from s4] at r3
          rw [show opE 0 (qZ (val L1) (val ys)) (qX (val L1) (val ys) X1 e2) = 0 from s1, show opN 0 (N1 != nb) (qZ (val L1) (val ys)) (qX (val L1) (val ys) X1 e2) = na from s2, show opX 0 (qZ (val L1) (val ys)) (qX (val L1) (val ys) X1 e2) = e1 from s3]
          have ma := heldz hb0 ma
          have hB3 := hB2.trans (hb0.mono hB2.size)
          clear hdiv hP s1 s2 s3 s4 x0 x1 x2 y0 y1 y2 z0 z1 z2 mb mp hb0
          dsimp only [dv]
          go_upto_region 7 with fail
          have hal : Below w3.heap.size w3 (w3.alloc (.cells #[.bool na, .slice A3 n3 c3, .int .i64 e1] 24)) := (Below.refl _ _).alloc (Nat.le_refl _) _
          have mq := World.alloc_heap_new w3 (.cells #[.bool na, .slice A3 n3 c3, .int .i64 e1] 24)
          have ma := heldz hal ma
          have r3 := r3.below hal (Nat.le_refl _)
          have hB4 := hB3.trans (hal.mono hB3.size)
          generalize w3.alloc (.cells #[.bool na, .slice A3 n3 c3, .int .i64 e1] 24) = W4 at ma mq r3 hB4 ⊢
          clear hal
          obtain ⟨x0, x1, x2⟩ := box3_of ma
          obtain ⟨y0, y1, y2⟩ := box3_of mq
          have hn3 : n3 ≤ 9223372036854775807 := by have h1 := r3.n_le; unfold maxLen at h1; omega
          have hsm := DSame_eq (c := c3) (d := c) na e1 W4 (r3.rd.more (S' := fun b => b < W4.heap.size) (fun b h => h.2)) ((ha.below hB4 hS).more (S' := fun b => b < W4.heap.size) (fun b h => up hB4 b (hS b h))) (fun b h => h) (fun b h => h) hn3 hn
          unfold dv at hsm
          go_wp2_with (go_at_call 22; refine (num3_c _ _).mono ?_; rintro e w' ⟨rfl, rfl⟩)
          refine hsm.mono ?_
          rintro e w5 ⟨rfl, hb0⟩
          go_wp2
          go_ret
          exact ⟨rfl, hB4.trans (hb0.mono hB4.size)⟩
    · have hEb : ((E1 : Nat) : Int) ≠ 0 := by omega
      have hEb2 : (((E1 : Nat) : Int) != 0) = true := by rw [bne_iff_ne]; exact hEb
      clear hEb
      go_wp2_with fail
      go_ret
      exact ⟨rfl, hBW⟩
  · obtain ⟨A1, n1, c1, rfl, r1⟩ := ht
    have hE9 : opE (okE2 na xs e1 nb ys e2) (val xs * val ys) (e1 + e2) = 9 := by
      rcases okE2_val na nb xs ys e1 e2 with h | h
      · exact absurd h hk
      · rw [h]; rfl
    rw [hE9]
    have hB := hB.trans (hb0.mono hB.size)
    generalize opN (okE2 na xs e1 nb ys e2) (na != nb) (val xs * val ys) (e1 + e2) = N1
    generalize opX (okE2 na xs e1 nb ys e2) (val xs * val ys) (e1 + e2) = X1
    dsimp only [dv]
    go_wp2_with fail
    go_ret
    exact ⟨rfl, hB.alloc hB.size _⟩
end Go.Proofs.YtbbafggejnjjiaaGreatDoor
