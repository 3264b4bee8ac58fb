/-
  Contract of the law's order.
-/
import Derived.Test.YtbbafggejnjjiaaGreatDoorDrsm
set_option linter.unusedVariables false
set_option linter.unusedSimpArgs false
namespace Go.Proofs.YtbbafggejnjjiaaGreatDoor
open Go.RowKit

set_option maxRecDepth 100000 in
theorem order3_c {S : Nat → Prop} {n m c d : Nat} {A B : Option Addr} {xs ys : List Nat} (na nb : Bool) (e1 e2 : Int) (w : World) (ha : Rd w S A n xs) (hb : Rd w S B m ys) (hS : ∀ b, S b → b < w.heap.size) (k1 : okB na xs e1 = true) (k2 : okB nb ys e2 = true) :
    Calls Tryz.prog 32 #[dv na A n c e1, dv nb B m d e2] w fun e w' => e = .returned (.int .i64 (cmpI (sv na (val xs) e1) (sv nb (val ys) e2))) ∧ Below w.heap.size w w' := by
  have hW : Below w.heap.size w ((w.alloc (.cells #[.bool na, .slice A n c, .int .i64 e1] 24)).alloc (.cells #[.bool nb, .slice B m d, .int .i64 e2] 24)) := ((Below.refl w.heap.size w).alloc (Nat.le_refl _) _).alloc (by simp) _
  have hR := ROrder_c (c := c) (d := d) na nb e1 e2 _ (ha.below hW hS) (hb.below hW hS) (fun b h => by have := hS b h; simp; omega) k1 k2
  unfold dv at hR
  unfold dv
  go_enter Tryz.func32, Tryz.ntmps32
  go_wp2_with fail
  refine hR.mono ?_
  rintro e w1 ⟨rfl, hb1⟩
  go_wp2
  go_ret
  exact ⟨rfl, hW.trans (hb1.mono hW.size)⟩
end Go.Proofs.YtbbafggejnjjiaaGreatDoor
