/-
  Contract of the reference's Compare of decimals.
-/
import Derived.Test.YtbbafggejnjjiaaGreatDoorDrsm
set_option linter.unusedVariables false
set_option linter.unusedSimpArgs false
namespace Go.Proofs.YtbbafggejnjjiaaGreatDoor
open Go.RowKit

set_option maxRecDepth 100000 in
set_option maxHeartbeats 1000000 in
theorem RCompare_v {S : Nat → Prop} {n m c d : Nat} {A B : Option Addr} {xs ys : List Nat} (na nb : Bool) (e1 e2 : Int) (w : World) (ha : Rd w S A n xs) (hb : Rd w S B m ys) (hS : ∀ b, S b → b < w.heap.size) (hn : n ≤ 9223372036854775807) (hm : m ≤ 9223372036854775807) :
    Calls Tryz.prog 40 #[dv na A n c e1, dv nb B m d e2] w fun e w' => e = .returned (.tuple #[.int .i64 (cmpV na xs e1 nb ys e2), .int .i64 (okE2 na xs e1 nb ys e2 : Int)]) ∧ Below w.heap.size w w' := by
  have hck := fun V (h1 : Rd V S A n xs) (h2 : Rd V S B m ys) hs => Rchecks_c (c := c) (d := d) na nb e1 e2 V h1 h2 hs hn hm
  obtain ⟨v, hv⟩ : ∃ v, v = cmpV na xs e1 nb ys e2 := ⟨_, rfl⟩
  obtain ⟨E, hE⟩ : ∃ v, v = okE2 na xs e1 nb ys e2 := ⟨_, rfl⟩
  have hord : E = 0 → ∀ V, Rd V S A n xs → Rd V S B m ys → (∀ b, S b → b < V.heap.size) → Calls Tryz.prog 89 #[dv na A n c e1, dv nb B m d e2] V fun e w' => e = .returned (.int .i64 v) ∧ Below V.heap.size V w' := by
    intro h0 V h1 h2 hs
    obtain ⟨k1, k2⟩ := okE2_zero.1 (hE.symm.trans h0)
    refine (ROrder_c (c := c) (d := d) na nb e1 e2 V h1 h2 hs k1 k2).mono ?_
    rintro e w' ⟨rfl, hbb⟩
    refine ⟨?_, hbb⟩
    rw [hv]
    unfold cmpV
    rw [if_pos (hE.symm.trans h0)]
  have hbad : E ≠ 0 → E = 9 ∧ v = 0 := fun h => by
    refine ⟨by rcases okE2_val na nb xs ys e1 e2 with h1 | h1 <;> omega, ?_⟩
    rw [hv]
    unfold cmpV
    rw [if_neg (by omega)]
  rw [← hv, ← hE]
  rw [← hE] at hck
  obtain ⟨m0, m1⟩ := two_new w (.cells #[.bool na, .slice A n c, .int .i64 e1] 24) (.cells #[.bool nb, .slice B m d, .int .i64 e2] 24)
  have hw : Below w.heap.size w ((w.alloc (.cells #[.bool na, .slice A n c, .int .i64 e1] 24)).alloc (.cells #[.bool nb, .slice B m d, .int .i64 e2] 24)) := ((Below.refl _ w).alloc (Nat.le_refl _) _).alloc (by simp) _
  unfold dv at hck hord ⊢
  have HCK := Lib.hid hck
  have HO := Lib.hid hord
  have HB := Lib.hid hbad
  have HM0 := Lib.hid m0
  have HM1 := Lib.hid m1
  clear hck hord hbad m0 m1 hv hE
  go_enter Tryz.func40, Tryz.ntmps40
  go_wp2_with fail
  have m0 := HM0.out
  have m1 := HM1.out
  clear HM0 HM1
  generalize ((w.alloc (.cells #[.bool na, .slice A n c, .int .i64 e1] 24)).alloc (.cells #[.bool nb, .slice B m d, .int .i64 e2] 24)) = W at m0 m1 hw ⊢
  have up : ∀ {W' : World}, Below w.heap.size w W' → ∀ b, S b → b < W'.heap.size := fun hW b h => by have := hS b h; have := hW.size; omega
  refine (HCK.out W (ha.below hw hS) (hb.below hw hS) (up hw)).mono ?_
  rintro e w1 ⟨rfl, hb1⟩
  have m0 := heldz hb1 m0
  have m1 := heldz hb1 m1
  have hw := hw.trans (hb1.mono hw.size)
  obtain ⟨p0, p1, p2⟩ := box3_of m0
  obtain ⟨p3, p4, p5⟩ := box3_of m1
  by_cases h0 : E = 0
  · have HO2 := Lib.hid (HO.out h0)
    subst h0
    go_wp2_with fail
    refine (HO2.out w1 (ha.below hw hS) (hb.below hw hS) (up hw)).mono ?_
    rintro e w2 ⟨rfl, hb2⟩
    go_wp2
    go_ret2
    exact ⟨rfl, hw.trans (hb2.mono hw.size)⟩
  · obtain ⟨rfl, rfl⟩ := HB.out h0
    clear h0
    go_wp2
    go_ret2
    exact ⟨rfl, hw⟩
end Go.Proofs.YtbbafggejnjjiaaGreatDoor
