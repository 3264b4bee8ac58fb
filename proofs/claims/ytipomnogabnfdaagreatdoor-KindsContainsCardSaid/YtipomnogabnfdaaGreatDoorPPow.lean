/-
  Contracts of nat.groupSizes and nat.Pow: ten to the n for n from 0 to 2400; else the error for a range.
-/
import Derived.Test.YtipomnogabnfdaaGreatDoorPNiter
set_option linter.unusedVariables false
set_option linter.unusedSimpArgs false
namespace Go.Proofs.YtipomnogabnfdaaGreatDoor
open Go.RowKit
attribute [local go_sem] Oper.semAt_some

theorem groupSizes_c (z : Int) (w : World) :
    Calls Tryz.prog 159 #[.int .i64 z] w fun e w' => e = .returned (.func (.func 181) #[] #[.pointer (some ⟨w.heap.size, 0, none⟩)]) ∧ w.alloc (.cells #[.int .i64 z] 3) = w' := by
  have hmf : ∀ (fn : Fn) (first cap : Array Value) (w : World), (Instr.makeFunc fn first cap).run Tryz.prog w = .ok (.func fn first cap) w := fun _ _ _ _ => rfl
  go_enter Tryz.func159, Tryz.ntmps159
  go_wp2
  go_ret
  exact ⟨rfl, rfl⟩

theorem sizesL_sum (n : Nat) : (sizesL n).sum = n := by
  have h : ∀ k, (sizesK n k).sum = min (9 * k) n := by
    intro k
    induction k with
    | zero => simp [sizesK]
    | succ k ih => rw [sizesK_succ, List.sum_append, ih]; simp; omega
  unfold sizesL
  rw [h]; omega
theorem sizesL_le {n x : Nat} {pre rest : List Nat} (h : sizesL n = pre ++ x :: rest) : x ≤ 9 ∧ pre.length < (n + 8) / 9 := by
  have hm : x ∈ sizesL n := by rw [h]; simp
  obtain ⟨i, _, hi⟩ := List.mem_map.1 hm
  have hl := congrArg List.length h
  simp [sizesL, sizesK] at hl
  omega

theorem smallPower_p (n p : Nat) (w : World) (hn : n ≤ 9) (hp : p = 10 ^ n) :
    Calls Tryz.prog 161 #[.int .i64 n] w fun e w' => e = .returned (.int .u32 (p : Int)) ∧ w = w' := by
  subst hp
  exact smallPower_c n w hn
theorem Can.len_le {zs : List Nat} {k : Nat} (h : Can zs) (hv : val zs < bp k) : zs.length ≤ k := by
  by_cases hne : zs = []
  · rw [hne]; simp
  · have h1 := h.ge hne
    rcases Nat.lt_or_ge k zs.length with h2 | h2
    · have := bp_mono (show k ≤ zs.length - 1 by omega); omega
    · exact h2
theorem pow_lt_of {n k m b : Nat} (h : n ≤ k * m) (hb : 10 ^ k < b) (hm : m ≠ 0) : 10 ^ n < b ^ m := by
  have h1 : 10 ^ n ≤ 10 ^ (k * m) := Nat.pow_le_pow_right (by omega) h
  rw [Nat.pow_mul] at h1
  exact Nat.lt_of_le_of_lt h1 (Nat.pow_lt_pow_left hb hm)
theorem bp_mul (j k : Nat) : bp (j * k) = bp j ^ k := by unfold bp; rw [Nat.pow_mul]
theorem pow10_lt {n : Nat} (h : n ≤ 2400) : 10 ^ n < bp 250 := by
  have h5 : 10 ^ 48 < bp 5 := by unfold bp; decide
  have h1 := pow_lt_of (n := n) (k := 48) (m := 50) (by omega) h5 (by omega)
  rw [← bp_mul] at h1
  exact h1
theorem sum_le_of_split {n x : Nat} {pre rest : List Nat} (h : sizesL n = pre ++ x :: rest) : pre.sum + x ≤ n := by
  have := congrArg List.sum h
  rw [sizesL_sum, List.sum_append, List.sum_cons] at this
  omega

end Go.Proofs.YtipomnogabnfdaaGreatDoor
