/-
  The walk of the law DecSums: it returns true, whatever the two decimals read as.
-/
import Derived.Test.YtkcejhjhpbgjaaaGreatDoorDz
set_option linter.unusedVariables false
set_option linter.unusedSimpArgs false
namespace Go.Proofs.YtkcejhjhpbgjaaaGreatDoor
open Go.RowKit

theorem heldz {w w' : World} {b : Nat} {vs : Array Value} {t : TypeId} (hb : Below w.heap.size w w') (h : w.heap[b]? = some (.cells vs t)) : w'.heap[b]? = some (.cells vs t) := held hb (Array.getElem?_eq_some_iff.1 h).1 h
theorem heldA {w : World} {b : Nat} {vs : Array Value} {t : TypeId} (o : Obj) (h : w.heap[b]? = some (.cells vs t)) : (w.alloc o).heap[b]? = some (.cells vs t) := (Below.heap_alloc _ _ _ (Array.getElem?_eq_some_iff.1 h).1).trans h
/-- An operation's answer, in letters. -/
def Answ (e : Ending) (w' : World) (base : Nat) (N : Bool) (X : Int) (Z : List Nat) (E : Nat) : Prop := ∃ A' n' c', e = .returned (.tuple #[dv N A' n' c' X, .int .i64 (E : Int)]) ∧ Res w' base A' n' c' Z
theorem Told.answ {e : Ending} {w' : World} {base E : Nat} {s : Bool} {Z : Nat} {lo : Int} (h : Told e w' base E s Z lo) {N : Bool} {X : Int} {L : List Nat} {F : Nat} (h1 : opN E s Z lo = N) (h2 : opX E Z lo = X) (h3 : opZ E Z lo = L) (h4 : opE E Z lo = F) : Answ e w' base N X L F := by
  subst h1 h2 h3 h4
  exact h

theorem DSame_eq {S S' : Nat → Prop} {n m c d : Nat} {A B : Option Addr} {xs : List Nat} (N : Bool) (X : Int) (w : World) (ha : Rd w S A n xs) (hb : Rd w S' B m xs) (hS : ∀ b, S b → b < w.heap.size) (hS' : ∀ b, S' b → b < w.heap.size) (hn : n ≤ 9223372036854775807) (hm : m ≤ 9223372036854775807) :
    Calls Tryz.prog 26 #[dv N A n c X, dv N B m d X] w fun e w' => e = .returned (.bool true) ∧ Below w.heap.size w w' := by
  refine (DSame_c (c := c) (d := d) N N X X w ha hb hS hS' hn hm).mono ?_
  rintro e w' ⟨rfl, hb⟩
  refine ⟨?_, hb⟩
  rw [decide_eq_true ⟨rfl, rfl, rfl⟩]

set_option maxRecDepth 100000 in
set_option maxHeartbeats 4000000 in
theorem DecSums_c {S : Nat → Prop} {n m c d : Nat} {A B : Option Addr} {xs ys : List Nat} (na nb : Bool) (e1 e2 : Int) (w : World) (ha : Rd w S A n xs) (hb : Rd w S B m ys)
    (hS : ∀ b, S b → b < w.heap.size) (hn : n ≤ 9223372036854775807) (hm : m ≤ 9223372036854775807) :
    Calls Tryz.prog 7 #[dv na A n c e1, dv nb B m d e2] w fun e w' => e = .returned (.bool true) ∧ Below w.heap.size w w' := by
  have hx := ha.l32
  have hy := hb.l32
  obtain ⟨N1, hN1⟩ : ∃ N, opN (okE2 na xs e1 nb ys e2) (addS na (val xs) e1 nb (val ys) e2) (addZ na (val xs) e1 nb (val ys) e2) (lo2 e1 e2) = N := ⟨_, rfl⟩
  obtain ⟨X1, hX1⟩ : ∃ N, opX (okE2 na xs e1 nb ys e2) (addZ na (val xs) e1 nb (val ys) e2) (lo2 e1 e2) = N := ⟨_, rfl⟩
  obtain ⟨Z1, hZ1⟩ : ∃ N, opZ (okE2 na xs e1 nb ys e2) (addZ na (val xs) e1 nb (val ys) e2) (lo2 e1 e2) = N := ⟨_, rfl⟩
  obtain ⟨E1, hE1⟩ : ∃ N, opE (okE2 na xs e1 nb ys e2) (addZ na (val xs) e1 nb (val ys) e2) (lo2 e1 e2) = N := ⟨_, rfl⟩
  obtain ⟨N2, hN2⟩ : ∃ N, opN (okE2 na xs e1 nb ys e2) (na != nb) (val xs * val ys) (e1 + e2) = N := ⟨_, rfl⟩
  obtain ⟨X2, hX2⟩ : ∃ N, opX (okE2 na xs e1 nb ys e2) (val xs * val ys) (e1 + e2) = N := ⟨_, rfl⟩
  obtain ⟨Z2, hZ2⟩ : ∃ N, opZ (okE2 na xs e1 nb ys e2) (val xs * val ys) (e1 + e2) = N := ⟨_, rfl⟩
  obtain ⟨E2, hE2⟩ : ∃ N, opE (okE2 na xs e1 nb ys e2) (val xs * val ys) (e1 + e2) = N := ⟨_, rfl⟩
  obtain ⟨N3, hN3⟩ : ∃ N, opN (okE2 N1 Z1 X1 nb ys e2) (addS N1 (val Z1) X1 (ops nb ys) (val ys) e2) (addZ N1 (val Z1) X1 (ops nb ys) (val ys) e2) (lo2 X1 e2) = N := ⟨_, rfl⟩
  obtain ⟨X3, hX3⟩ : ∃ N, opX (okE2 N1 Z1 X1 nb ys e2) (addZ N1 (val Z1) X1 (ops nb ys) (val ys) e2) (lo2 X1 e2) = N := ⟨_, rfl⟩
  obtain ⟨Z3, hZ3⟩ : ∃ N, opZ (okE2 N1 Z1 X1 nb ys e2) (addZ N1 (val Z1) X1 (ops nb ys) (val ys) e2) (lo2 X1 e2) = N := ⟨_, rfl⟩
  obtain ⟨E3, hE3⟩ : ∃ N, opE (okE2 N1 Z1 X1 nb ys e2) (addZ N1 (val Z1) X1 (ops nb ys) (val ys) e2) (lo2 X1 e2) = N := ⟨_, rfl⟩
  have facts : E1 ≠ 0 ∨ (E1 = 0 ∧ E3 = 0 ∧ N3 = na ∧ X3 = e1 ∧ Z3 = xs) := by
    by_cases h : E1 = 0
    · refine .inr ⟨h, ?_⟩
      have hk : okE2 na xs e1 nb ys e2 = 0 := by
        rcases okE2_val na nb xs ys e1 e2 with h0 | h0
        · exact h0
        · rw [h0] at hE1
          have : opE 9 (addZ na (val xs) e1 nb (val ys) e2) (lo2 e1 e2) = 9 := rfl
          omega
      obtain ⟨k1, k2⟩ := okE2_zero.1 hk
      rw [hk] at hN1 hX1 hZ1 hE1
      have hst : stE (addZ na (val xs) e1 nb (val ys) e2) (lo2 e1 e2) = 0 := hE1.trans h
      have hn1 : stN (addS na (val xs) e1 nb (val ys) e2) (addZ na (val xs) e1 nb (val ys) e2) (lo2 e1 e2) = N1 := hN1
      have hx1 : stX (addZ na (val xs) e1 nb (val ys) e2) (lo2 e1 e2) = X1 := hX1
      have hz1 : stZ (addZ na (val xs) e1 nb (val ys) e2) (lo2 e1 e2) = Z1 := hZ1
      have hsb := sub_back hx hy k1 k2 rfl rfl rfl hst rfl rfl rfl
      rw [hn1, hx1, hz1] at hsb
      obtain ⟨q1, q2, q3, q4, q5⟩ := hsb
      have hk3 : okE2 N1 Z1 X1 nb ys e2 = 0 := okE2_zero.2 ⟨q1, k2⟩
      rw [hk3] at hN3 hX3 hZ3 hE3
      exact ⟨hE3.symm.trans q2, hN3.symm.trans q3, hX3.symm.trans q4, hZ3.symm.trans q5⟩
    · exact .inl h
  have hcab := fun V (h1 : Rd V S A n xs) (h2 : Rd V S B m ys) hs => (DAdd_v (c := c) (d := d) na nb e1 e2 V h1 h2 hs hn hm).mono fun e w' ⟨h, hb⟩ => (⟨h.answ hN1 hX1 hZ1 hE1, hb⟩ : Answ e w' V.heap.size N1 X1 Z1 E1 ∧ Below V.heap.size V w')
  have hcm := add_comm_op (okE2 na xs e1 nb ys e2) na (val xs) e1 nb (val ys) e2
  have hcba := fun V (h1 : Rd V S B m ys) (h2 : Rd V S A n xs) hs => (DAdd_v (c := d) (d := c) nb na e2 e1 V h1 h2 hs hm hn).mono fun e w' ⟨h, hb⟩ => (⟨h.answ (by rw [okE2_comm]; exact hcm.2.1.symm.trans hN1) (by rw [okE2_comm]; exact hcm.2.2.1.symm.trans hX1) (by rw [okE2_comm]; exact hcm.2.2.2.symm.trans hZ1) (by rw [okE2_comm]; exact hcm.1.symm.trans hE1), hb⟩ : Answ e w' V.heap.size N1 X1 Z1 E1 ∧ Below V.heap.size V w')
  have hmab := fun V (h1 : Rd V S A n xs) (h2 : Rd V S B m ys) hs => (DMul_v (c := c) (d := d) na nb e1 e2 V h1 h2 hs hn hm).mono fun e w' ⟨h, hb⟩ => (⟨h.answ hN2 hX2 hZ2 hE2, hb⟩ : Answ e w' V.heap.size N2 X2 Z2 E2 ∧ Below V.heap.size V w')
  have hxc : (nb != na) = (na != nb) := by cases na <;> cases nb <;> rfl
  have hmba := fun V (h1 : Rd V S B m ys) (h2 : Rd V S A n xs) hs => (DMul_v (c := d) (d := c) nb na e2 e1 V h1 h2 hs hm hn).mono fun e w' ⟨h, hb⟩ => (⟨h.answ (by rw [okE2_comm, hxc, Nat.mul_comm, Int.add_comm]; exact hN2) (by rw [okE2_comm, Nat.mul_comm, Int.add_comm]; exact hX2) (by rw [okE2_comm, Nat.mul_comm, Int.add_comm]; exact hZ2) (by rw [okE2_comm, Nat.mul_comm, Int.add_comm]; exact hE2), hb⟩ : Answ e w' V.heap.size N2 X2 Z2 E2 ∧ Below V.heap.size V w')
  have hsub := fun V (S' : Nat → Prop) A' n' c' (h1 : Rd V S' A' n' Z1) (h2 : Rd V S' B m ys) hs hn' => (DSub_v (c := c') (d := d) N1 nb X1 e2 V h1 h2 hs hn' hm).mono fun e w' ⟨h, hb⟩ => (⟨h.answ hN3 hX3 hZ3 hE3, hb⟩ : Answ e w' V.heap.size N3 X3 Z3 E3 ∧ Below V.heap.size V w')
  have hs1 := fun V (S1 S2 : Nat → Prop) A1 n1 c1 A2 n2 c2 (h1 : Rd V S1 A1 n1 Z1) (h2 : Rd V S2 A2 n2 Z1) hS1 hS2 hn1 hn2 => DSame_eq (c := c1) (d := c2) N1 X1 V h1 h2 hS1 hS2 hn1 hn2
  have hs2 := fun V (S1 S2 : Nat → Prop) A1 n1 c1 A2 n2 c2 (h1 : Rd V S1 A1 n1 Z2) (h2 : Rd V S2 A2 n2 Z2) hS1 hS2 hn1 hn2 => DSame_eq (c := c1) (d := c2) N2 X2 V h1 h2 hS1 hS2 hn1 hn2
  have hs3 := fun V (S1 S2 : Nat → Prop) A1 n1 c1 A2 n2 c2 (h1 : Rd V S1 A1 n1 xs) (h2 : Rd V S2 A2 n2 xs) hS1 hS2 hn1 hn2 => DSame_eq (c := c1) (d := c2) na e1 V h1 h2 hS1 hS2 hn1 hn2
  unfold Answ at hcab hcba hmab hmba hsub
  unfold dv at hcab hcba hmab hmba hsub hs1 hs2 hs3 ⊢
  have CAB := Lib.hid hcab
  have CBA := Lib.hid hcba
  have MAB := Lib.hid hmab
  have MBA := Lib.hid hmba
  have SUB := Lib.hid hsub
  have S1 := Lib.hid hs1
  have S2 := Lib.hid hs2
  have S3 := Lib.hid hs3
  have FA := Lib.hid facts
  clear hcab hcba hmab hmba hsub hs1 hs2 hs3 facts hcm hxc hN1 hX1 hZ1 hE1 hN2 hX2 hZ2 hE2 hN3 hX3 hZ3 hE3
  go_enter Tryz.func7, Tryz.ntmps7
  go_wp2_with fail
  obtain ⟨ma, mb⟩ := two_new w (.cells #[.bool na, .slice A n c, .int .i64 e1] 24) (.cells #[.bool nb, .slice B m d, .int .i64 e2] 24)
  have hw : Below w.heap.size w ((w.alloc (.cells #[.bool na, .slice A n c, .int .i64 e1] 24)).alloc (.cells #[.bool nb, .slice B m d, .int .i64 e2] 24)) := ((Below.refl _ w).alloc (Nat.le_refl _) _).alloc (by simp) _
  generalize ((w.alloc (.cells #[.bool na, .slice A n c, .int .i64 e1] 24)).alloc (.cells #[.bool nb, .slice B m d, .int .i64 e2] 24)) = W at ma mb hw ⊢
  have up : ∀ {W' : World}, Below w.heap.size w W' → ∀ b, S b → b < W'.heap.size := fun hW b h => by have := hS b h; have := hW.size; omega
  refine (alive2_c W).mono ?_
  rintro e w1 ⟨rfl, hb1⟩
  have ma := heldz hb1 ma
  have mb := heldz hb1 mb
  have hw := hw.trans (hb1.mono hw.size)
  obtain ⟨pa0, pa1, pa2⟩ := box3_of ma
  obtain ⟨pb0, pb1, pb2⟩ := box3_of mb
  go_wp2_with fail
  refine (CAB.out _ (ha.below hw hS) (hb.below hw hS) (up hw)).mono ?_
  rintro e w2 ⟨⟨A1, n1, c1, rfl, rs⟩, hb2⟩
  clear pa0 pa1 pa2 pb0 pb1 pb2
  have ma := heldz hb2 ma
  have mb := heldz hb2 mb
  have hw := hw.trans (hb2.mono hw.size)
  have ma := heldA (.cells #[.bool N1, .slice A1 n1 c1, .int .i64 X1] 24) ma
  have mb := heldA (.cells #[.bool N1, .slice A1 n1 c1, .int .i64 X1] 24) mb
  have ms := World.alloc_heap_new w2 (.cells #[.bool N1, .slice A1 n1 c1, .int .i64 X1] 24)
  obtain ⟨pa0, pa1, pa2⟩ := box3_of ma
  obtain ⟨pb0, pb1, pb2⟩ := box3_of mb
  go_wp2_with fail
  clear pa0 pa1 pa2 pb0 pb1 pb2
  have rs := rs.below ((Below.refl w2.heap.size w2).alloc (Nat.le_refl _) (.cells #[.bool N1, .slice A1 n1 c1, .int .i64 X1] 24)) (Nat.le_refl _)
  have hw := hw.alloc hw.size (.cells #[.bool N1, .slice A1 n1 c1, .int .i64 X1] 24)
  generalize hV2 : (w2.alloc (.cells #[.bool N1, .slice A1 n1 c1, .int .i64 X1] 24)) = V2 at *
  clear hV2
  refine (CBA.out _ (hb.below hw hS) (ha.below hw hS) (up hw)).mono ?_
  rintro e w3 ⟨⟨A2, n2, c2, rfl, rt⟩, hb3⟩
  have ma := heldz hb3 ma
  have mb := heldz hb3 mb
  have ms := heldz hb3 ms
  have rs := rs.below hb3 (Nat.le_refl _)
  have hw := hw.trans (hb3.mono hw.size)
  have ma := heldA (.cells #[.bool N1, .slice A2 n2 c2, .int .i64 X1] 24) ma
  have mb := heldA (.cells #[.bool N1, .slice A2 n2 c2, .int .i64 X1] 24) mb
  have ms := heldA (.cells #[.bool N1, .slice A2 n2 c2, .int .i64 X1] 24) ms
  have mt := World.alloc_heap_new w3 (.cells #[.bool N1, .slice A2 n2 c2, .int .i64 X1] 24)
  obtain ⟨pa0, pa1, pa2⟩ := box3_of ma
  obtain ⟨pb0, pb1, pb2⟩ := box3_of mb
  go_wp2_with fail
  clear pa0 pa1 pa2 pb0 pb1 pb2
  have rs := rs.below ((Below.refl w3.heap.size w3).alloc (Nat.le_refl _) (.cells #[.bool N1, .slice A2 n2 c2, .int .i64 X1] 24)) (Nat.le_refl _)
  have rt := rt.below ((Below.refl w3.heap.size w3).alloc (Nat.le_refl _) (.cells #[.bool N1, .slice A2 n2 c2, .int .i64 X1] 24)) (Nat.le_refl _)
  have hw := hw.alloc hw.size (.cells #[.bool N1, .slice A2 n2 c2, .int .i64 X1] 24)
  generalize hV3 : (w3.alloc (.cells #[.bool N1, .slice A2 n2 c2, .int .i64 X1] 24)) = V3 at *
  clear hV3
  refine (MAB.out _ (ha.below hw hS) (hb.below hw hS) (up hw)).mono ?_
  rintro e w4 ⟨⟨A3, n3, c3, rfl, rp⟩, hb4⟩
  have ma := heldz hb4 ma
  have mb := heldz hb4 mb
  have ms := heldz hb4 ms
  have mt := heldz hb4 mt
  have rs := rs.below hb4 (Nat.le_refl _)
  have rt := rt.below hb4 (Nat.le_refl _)
  have hw := hw.trans (hb4.mono hw.size)
  have ma := heldA (.cells #[.bool N2, .slice A3 n3 c3, .int .i64 X2] 24) ma
  have mb := heldA (.cells #[.bool N2, .slice A3 n3 c3, .int .i64 X2] 24) mb
  have ms := heldA (.cells #[.bool N2, .slice A3 n3 c3, .int .i64 X2] 24) ms
  have mt := heldA (.cells #[.bool N2, .slice A3 n3 c3, .int .i64 X2] 24) mt
  have mp := World.alloc_heap_new w4 (.cells #[.bool N2, .slice A3 n3 c3, .int .i64 X2] 24)
  obtain ⟨pa0, pa1, pa2⟩ := box3_of ma
  obtain ⟨pb0, pb1, pb2⟩ := box3_of mb
  go_wp2_with fail
  clear pa0 pa1 pa2 pb0 pb1 pb2
  have rs := rs.below ((Below.refl w4.heap.size w4).alloc (Nat.le_refl _) (.cells #[.bool N2, .slice A3 n3 c3, .int .i64 X2] 24)) (Nat.le_refl _)
  have rt := rt.below ((Below.refl w4.heap.size w4).alloc (Nat.le_refl _) (.cells #[.bool N2, .slice A3 n3 c3, .int .i64 X2] 24)) (Nat.le_refl _)
  have rp := rp.below ((Below.refl w4.heap.size w4).alloc (Nat.le_refl _) (.cells #[.bool N2, .slice A3 n3 c3, .int .i64 X2] 24)) (Nat.le_refl _)
  have hw := hw.alloc hw.size (.cells #[.bool N2, .slice A3 n3 c3, .int .i64 X2] 24)
  generalize hV4 : (w4.alloc (.cells #[.bool N2, .slice A3 n3 c3, .int .i64 X2] 24)) = V4 at *
  clear hV4
  refine (MBA.out _ (hb.below hw hS) (ha.below hw hS) (up hw)).mono ?_
  rintro e w5 ⟨⟨A4, n4, c4, rfl, rq⟩, hb5⟩
  have ma := heldz hb5 ma
  have mb := heldz hb5 mb
  have ms := heldz hb5 ms
  have mt := heldz hb5 mt
  have mp := heldz hb5 mp
  have rs := rs.below hb5 (Nat.le_refl _)
  have rt := rt.below hb5 (Nat.le_refl _)
  have rp := rp.below hb5 (Nat.le_refl _)
  have hw := hw.trans (hb5.mono hw.size)
  have ma := heldA (.cells #[.bool N2, .slice A4 n4 c4, .int .i64 X2] 24) ma
  have mb := heldA (.cells #[.bool N2, .slice A4 n4 c4, .int .i64 X2] 24) mb
  have ms := heldA (.cells #[.bool N2, .slice A4 n4 c4, .int .i64 X2] 24) ms
  have mt := heldA (.cells #[.bool N2, .slice A4 n4 c4, .int .i64 X2] 24) mt
  have mp := heldA (.cells #[.bool N2, .slice A4 n4 c4, .int .i64 X2] 24) mp
  have mq := World.alloc_heap_new w5 (.cells #[.bool N2, .slice A4 n4 c4, .int .i64 X2] 24)
  obtain ⟨ps0, ps1, ps2⟩ := box3_of ms
  obtain ⟨pt0, pt1, pt2⟩ := box3_of mt
  go_wp2_with fail
  clear ps0 ps1 ps2 pt0 pt1 pt2
  have rs := rs.below ((Below.refl w5.heap.size w5).alloc (Nat.le_refl _) (.cells #[.bool N2, .slice A4 n4 c4, .int .i64 X2] 24)) (Nat.le_refl _)
  have rt := rt.below ((Below.refl w5.heap.size w5).alloc (Nat.le_refl _) (.cells #[.bool N2, .slice A4 n4 c4, .int .i64 X2] 24)) (Nat.le_refl _)
  have rp := rp.below ((Below.refl w5.heap.size w5).alloc (Nat.le_refl _) (.cells #[.bool N2, .slice A4 n4 c4, .int .i64 X2] 24)) (Nat.le_refl _)
  have rq := rq.below ((Below.refl w5.heap.size w5).alloc (Nat.le_refl _) (.cells #[.bool N2, .slice A4 n4 c4, .int .i64 X2] 24)) (Nat.le_refl _)
  have hw := hw.alloc hw.size (.cells #[.bool N2, .slice A4 n4 c4, .int .i64 X2] 24)
  generalize hV5 : (w5.alloc (.cells #[.bool N2, .slice A4 n4 c4, .int .i64 X2] 24)) = V5 at *
  clear hV5
  refine (S1.out _ _ _ _ _ _ _ _ _ rs.rd rt.rd (fun b h => h.2) (fun b h => h.2) rs.lt rt.lt).mono ?_
  rintro e w6 ⟨rfl, hb6⟩
  have ma := heldz hb6 ma
  have mb := heldz hb6 mb
  have ms := heldz hb6 ms
  have mt := heldz hb6 mt
  have mp := heldz hb6 mp
  have mq := heldz hb6 mq
  have rs := rs.below hb6 (Nat.le_refl _)
  have rt := rt.below hb6 (Nat.le_refl _)
  have rp := rp.below hb6 (Nat.le_refl _)
  have rq := rq.below hb6 (Nat.le_refl _)
  have hw := hw.trans (hb6.mono hw.size)
  obtain ⟨pp0, pp1, pp2⟩ := box3_of mp
  obtain ⟨pq0, pq1, pq2⟩ := box3_of mq
  go_wp2_with fail
  refine (S2.out _ _ _ _ _ _ _ _ _ rp.rd rq.rd (fun b h => h.2) (fun b h => h.2) rp.lt rq.lt).mono ?_
  rintro e w7 ⟨rfl, hb7⟩
  clear pp0 pp1 pp2 pq0 pq1 pq2
  have ma := heldz hb7 ma
  have mb := heldz hb7 mb
  have ms := heldz hb7 ms
  have mt := heldz hb7 mt
  have mp := heldz hb7 mp
  have mq := heldz hb7 mq
  have rs := rs.below hb7 (Nat.le_refl _)
  have rt := rt.below hb7 (Nat.le_refl _)
  have rp := rp.below hb7 (Nat.le_refl _)
  have rq := rq.below hb7 (Nat.le_refl _)
  have hw := hw.trans (hb7.mono hw.size)
  obtain ⟨ps0, ps1, ps2⟩ := box3_of ms
  obtain ⟨pb0, pb1, pb2⟩ := box3_of mb
  go_wp2_with fail
  have hwS := hw.size
  refine (SUB.out _ (fun b => b < w7.heap.size) _ _ _ (rs.rd.more (fun b h => h.2)) ((hb.below hw hS).more (fun b h => up hw b h)) (fun b h => h) rs.lt).mono ?_
  rintro e w8 ⟨⟨A5, n5, c5, rfl, ru⟩, hb8⟩
  clear ps0 ps1 ps2 pb0 pb1 pb2
  have ma := heldz hb8 ma
  have mb := heldz hb8 mb
  have ms := heldz hb8 ms
  have mt := heldz hb8 mt
  have mp := heldz hb8 mp
  have mq := heldz hb8 mq
  have rs := rs.below hb8 (Nat.le_refl _)
  have rt := rt.below hb8 (Nat.le_refl _)
  have rp := rp.below hb8 (Nat.le_refl _)
  have rq := rq.below hb8 (Nat.le_refl _)
  have hw := hw.trans (hb8.mono hw.size)
  rcases FA.out with f1 | ⟨rfl, rfl, rfl, rfl, rfl⟩
  · have hE : ((E1 : Int) != 0) = true := by rw [bne_iff_ne]; omega
    have hW := hw
    clear f1
    obtain ⟨pa0, pa1, pa2⟩ := box3_of ma
    go_wp2_with (go_at_call 25; refine (num2_c _ _).mono ?_; rintro e w' ⟨rfl, rfl⟩)
    go_ret
    exact ⟨rfl, by first | exact hW | exact hW.alloc hW.size _⟩
  · have ma := heldA (.cells #[.bool N3, .slice A5 n5 c5, .int .i64 X3] 24) ma
    obtain ⟨pa0, pa1, pa2⟩ := box3_of ma
    go_wp2_with (first
      | (go_at_call 25; refine (num2_c _ _).mono ?_; rintro e w' ⟨rfl, rfl⟩)
      | fail)
    have hw := hw.alloc hw.size (.cells #[.bool N3, .slice A5 n5 c5, .int .i64 X3] 24)
    have ru := ru.below ((Below.refl _ _).alloc (Nat.le_refl _) (.cells #[.bool N3, .slice A5 n5 c5, .int .i64 X3] 24)) (Nat.le_refl _)
    refine (S3.out _ _ _ _ _ _ _ _ _ ru.rd (ha.below hw hS) (fun b h => h.2) (up hw) ru.lt hn).mono ?_
    rintro e w9 ⟨rfl, hb9⟩
    go_wp2
    go_ret
    exact ⟨rfl, hw.trans (hb9.mono hw.size)⟩
end Go.Proofs.YtkcejhjhpbgjaaaGreatDoor
