/-
  What the walks of several laws share: words and lemmas (Dintb).
-/
import Derived.Test.YtnlkcjfedomcgaaGreatDoorDint
import Derived.Test.YtnlkcjfedomcgaaGreatDoorDwhole
import Derived.Test.YtnlkcjfedomcgaaGreatDoorDsumb
set_option linter.unusedVariables false
set_option linter.unusedSimpArgs false
namespace Go.Proofs.YtnlkcjfedomcgaaGreatDoor
open Go.RowKit

theorem sg_prod (na nb : Bool) (x y : Nat) : sg (na != nb) (x * y) = sg na x * sg nb y := by
  cases na <;> cases nb <;> simp [sg, Int.neg_mul, Int.mul_neg]
theorem sg_abs (z : Int) : sg (decide (z < 0)) z.natAbs = z := by
  by_cases h : z < 0
  · rw [decide_eq_true h]; show -((z.natAbs : Nat) : Int) = z; omega
  · rw [decide_eq_false h]; show ((z.natAbs : Nat) : Int) = z; omega
theorem sp_nat (k : Nat) : sp (k : Int) = 10 ^ k * sp 0 := by
  have := sp_add (e := 0) (p := k) (by omega)
  rwa [Int.zero_add] at this
/-- A number as a decimal. -/
theorem int_of {z : Int} (h : z.natAbs < 10 ^ 40) : ∃ k : Nat, stX z.natAbs 0 = (k : Int) ∧ okB (stN (decide (z < 0)) z.natAbs 0) (stZ z.natAbs 0) (k : Int) = true ∧ L32 (stZ z.natAbs 0) ∧ sg (stN (decide (z < 0)) z.natAbs 0) (val (stZ z.natAbs 0) * 10 ^ k) = z := by
  obtain ⟨q1, q2, q3, q4⟩ := settle_may (s := decide (z < 0)) (lo := 0) (Z := z.natAbs) (by omega) (stE_small h)
  have hx : 0 ≤ stX z.natAbs 0 := by
    rcases Nat.eq_zero_or_pos z.natAbs with h0 | h0
    · rw [h0, (st_zero false 0).2.2.1]; omega
    · exact q4 h0
  obtain ⟨k, hk⟩ : ∃ k : Nat, stX z.natAbs 0 = (k : Int) := ⟨(stX z.natAbs 0).toNat, by omega⟩
  rw [hk] at q1 q3
  refine ⟨k, hk, q1, q2, ?_⟩
  have h1 : sg (stN (decide (z < 0)) z.natAbs 0) (val (stZ z.natAbs 0) * 10 ^ k) * (sp 0 : Int) = z * (sp 0 : Int) := by
    rw [← sg_mul, Nat.mul_assoc, ← sp_nat]
    refine Eq.trans q3 ?_
    rw [sg_abs]
  have hp := sp_pos 0
  exact Int.eq_of_mul_eq_mul_right (by omega) h1
theorem int_sv {N : Bool} {v k : Nat} {z : Int} (h : sg N (v * 10 ^ k) = z) : sv N v (k : Int) = z * (sp 0 : Int) := by
  unfold sv
  rw [sp_nat, ← Nat.mul_assoc, sg_mul, h]
theorem addi_int {na nb nc : Bool} {za zb zc : List Nat} {a b : Int} {ka kb kc : Nat} (hc : okB nc zc (kc : Int) = true) (lc : L32 zc)
    (ha1 : sg na (val za * 10 ^ ka) = a) (hb1 : sg nb (val zb * 10 ^ kb) = b) (hc1 : sg nc (val zc * 10 ^ kc) = a + b) {s : Bool} {Z : Nat} {lo : Int} (h1 : s = addS na (val za) ka nb (val zb) kb) (h2 : Z = addZ na (val za) ka nb (val zb) kb) (h3 : lo = lo2 ka kb) :
    stE Z lo = 0 ∧ stN s Z lo = nc ∧ stX Z lo = kc ∧ stZ Z lo = zc := by
  refine settle_back lc hc (by rw [h3]; unfold lo2; omega) ?_
  rw [h1, h2, h3, add_sv _ _ _ _ _ _ (by omega) (by omega), int_sv ha1, int_sv hb1, int_sv hc1, Int.add_mul]
theorem muli_int {na nb nc : Bool} {za zb zc : List Nat} {a b : Int} {ka kb kc : Nat} (hc : okB nc zc (kc : Int) = true) (lc : L32 zc)
    (ha1 : sg na (val za * 10 ^ ka) = a) (hb1 : sg nb (val zb * 10 ^ kb) = b) (hc1 : sg nc (val zc * 10 ^ kc) = a * b) {lo : Int} (h3 : lo = (ka : Int) + (kb : Int)) :
    stE (val za * val zb) lo = 0 ∧ stN (na != nb) (val za * val zb) lo = nc ∧ stX (val za * val zb) lo = kc ∧ stZ (val za * val zb) lo = zc := by
  refine settle_back lc hc (by omega) ?_
  have h : val za * val zb * 10 ^ (ka + kb) = val za * 10 ^ ka * (val zb * 10 ^ kb) := by rw [Nat.pow_add]; ac_rfl
  rw [int_sv hc1, h3, show (ka : Int) + (kb : Int) = ((ka + kb : Nat) : Int) by omega, ← sg_mul, sp_nat, ← Nat.mul_assoc, h, sg_mul, sg_prod, ha1, hb1]
end Go.Proofs.YtnlkcjfedomcgaaGreatDoor
